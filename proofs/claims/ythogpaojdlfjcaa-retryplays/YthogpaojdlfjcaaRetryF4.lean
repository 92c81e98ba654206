/- The contract of retry.Put. -/
import Derived.Test.YthogpaojdlfjcaaRetryF3
import Derived.Deep.RegionHeld3
namespace Go.Proofs.Ythogpaojdlfjcaa.Rty
open Go.RowKit Go.Proofs.Ythogpaojdlfjcaa Go.Proofs.Ythogpaojdlfjcaa.Edi

set_option maxRecDepth 100000 in
set_option maxHeartbeats 8000000 in
/-- What may not be put. -/
theorem put_arg {w : World} {cb : Nat} {e : Ed} {a : Option Addr} {m q : Nat} (hnm : Nm w a m e.ls) {c k : Int} {x : Ans} {s : Sls} (hbad : ¬ Rt e ∨ e.c ≠ c ∨ e.l ≠ k) :
    Calls Try.prog 7 #[.pointer (some ⟨cb, 0, none⟩), .int .i64 c, .int .i64 k, edV e a m q, anV x s] w fun y w' => y = .returned (.int .i64 1) ∧ Below w.heap.size w w' := by
  obtain ⟨E, er, hce, her⟩ := enc_any e
  have CE : Hid (∀ W, Below w.heap.size w W → Calls Try.prog 15 #[edV e a m q] W fun y w' => y = .returned (.tuple #[.string E, .int .i64 er]) ∧ Below W.heap.size W w') := fun W hb => hce W a m q (hnm.below hb)
  have hcs : er = 1 ∨ er = 0 ∧ (e.c == c) = false ∨ er = 0 ∧ e.c = c ∧ (e.l == k) = false := by
    rcases her with ⟨h1, h2, _⟩ | ⟨h1, _⟩
    · by_cases h3 : e.c = c
      · by_cases h4 : e.l = k
        · rcases hbad with h5 | h5 | h5
          · exact absurd h2 h5
          · exact absurd h3 h5
          · exact absurd h4 h5
        · exact .inr (.inr ⟨h1, h3, by simpa using h4⟩)
      · exact .inr (.inl ⟨h1, by simpa using h3⟩)
    · exact .inl h1
  clear hce her hbad hnm
  obtain ⟨k0, p, t0, c1, l, n, ls⟩ := e
  unfold edV anV at *
  simp only at CE hcs ⊢
  have KE : ∀ o, Hid (EdAt ((w.alloc (.cells #[.int .i64 k0, .string p, .string t0, .int .i64 c1, .int .i64 l, .int .i64 n, .slice a m q] 32)).alloc o) w.heap.size ⟨k0, p, t0, c1, l, n, ls⟩ a m q) := fun o => (EdAt.new w 32 ⟨k0, p, t0, c1, l, n, ls⟩ a m q).below (bel_al _ _)
  rcases hcs with rfl | ⟨rfl, hcc⟩ | ⟨rfl, rfl, hkk⟩
  all_goals
    go_enter Try.func7, Try.ntmps7
    go_wp2_with fail
    refine (CE.out _ (bel_tr (bel_al _ _) (bel_al _ _))).mono ?_
    rintro y w1 ⟨rfl, b⟩
    have hE := (KE _).out.below b
    have q3 := hE.c3
    have q4 := hE.c4
    simp only at q3 q4
    have B1 : Hid (Below w.heap.size w w1) := bel_tr (bel_tr (bel_al _ _) (bel_al _ _)) b
    clear hE b KE CE
    go_wp2
    go_ret
    exact ⟨rfl, B1.out⟩

theorem look_run {W : World} {mb n : Nat} {D : DataW Value} (ho : W.ownsMap Try.prog 61 rv mb n D) {c k : Int} (hkey : keyOf Try.prog 61 (.agg #[.int .i64 c, .int .i64 k]) = some (kl c k)) {V : Value} (hat : D.atKey (kl c k) (.held (mkV zeroK)) = .held V) {b : Bool} (hhas : Maps.has D (kl c k) = b) :
    (Instr.lookup 55 (.map (some mb)) (.agg #[.int .i64 c, .int .i64 k]) true).run Try.prog W = .ok (.tuple #[V, .bool b]) W := by
  obtain ⟨v, ps, h1, h2⟩ := ho.look_ok lawI Try.underlying55 (zeroKept W) (rv_mk zeroK) hkey
  rw [hat] at h2
  rw [h1, rv_held h2, hhas]

/-- What is put stands behind all others. -/
def putS (S : List Ent) (e : Ent) : List Ent := (S.filter fun x => !x.is e.ed.c e.ed.l) ++ [e]

set_option maxRecDepth 100000 in
set_option maxHeartbeats 8000000 in
/-- A call that is there with another edit. -/
theorem put_state {O : Nat → Prop} {w : World} {cb mb : Nat} {S : List Ent} {t : Nat} (h : CAt O w cb mb S t) {e : Ed} {a : Option Addr} {m q : Nat} (hnm : Nm w a m e.ls) (hr : Rt e) {x : Ans} {s : Sls} {f : Ent} (hl : look S e.c e.l = some f) (hne : ¬ f.ed = e) :
    Calls Try.prog 7 #[.pointer (some ⟨cb, 0, none⟩), .int .i64 e.c, .int .i64 e.l, edV e a m q, anV x s] w fun y w' => y = .returned (.int .i64 14) ∧ Below w.heap.size w w' := by
  have CE : Hid (∀ W, Below w.heap.size w W → Calls Try.prog 15 #[edV e a m q] W fun y w' => y = .returned (.tuple #[.string (encS e), .int .i64 0]) ∧ Below W.heap.size W w') := fun W hb => encode_yes (hnm.below hb) hr _ rfl
  have hbb : ((encS f.ed).toList == (encS e).toList) = false := by
    rw [same_eq, decide_eq_false (fun e2 => hne (enc_inj (h.good.rt f (look_mem hl).1) hr e2))]
  obtain ⟨D, ho, hT⟩ := h.own
  have h64 := rt64 hr
  have hat := hT.at h.good h64.1 h64.2 (.held (mkV zeroK))
  have hhas := hT.has h.good h64.1 h64.2
  rw [hl] at hat hhas
  simp only [Option.isSome_some] at hat hhas
  have hkey := keyI h64.1 h64.2
  have HO : Hid (∀ W, Below w.heap.size w W → W.ownsMap Try.prog 61 rv mb S.length D) := fun W hb => by
    obtain ⟨es, clock, h1, h2⟩ := ho
    exact ⟨es, clock, (hb.block mb (Array.getElem?_eq_some_iff.1 h1).1).trans h1, h2⟩
  have HC : Hid (w.cell? ⟨cb, 0, none⟩ = some (.map (some mb))) := h.c0
  clear h hT ho hl hne hnm hr h64
  generalize encS e = EE at *
  obtain ⟨k0, p, t0, c, k, n, ls⟩ := e
  obtain ⟨fe, ⟨xerr, ⟨xb1, xb2, xb3⟩, xnames, xpath, xdir, xquota, xblocks, xwriter, xn⟩, ⟨xa1, xc1, xa2, xc2⟩, xt⟩ := f
  unfold entV at hat
  unfold edV anV at *
  simp only at CE hat hhas hkey hbb ⊢
  generalize encS fe = FE at *
  generalize xnames.length = xn1 at *
  generalize xblocks.length = xn2 at *
  have KE : ∀ o, Hid (EdAt ((w.alloc (.cells #[.int .i64 k0, .string p, .string t0, .int .i64 c, .int .i64 k, .int .i64 n, .slice a m q] 32)).alloc o) w.heap.size ⟨k0, p, t0, c, k, n, ls⟩ a m q) := fun o => (EdAt.new w 32 ⟨k0, p, t0, c, k, n, ls⟩ a m q).below (bel_al _ _)
  go_enter Try.func7, Try.ntmps7
  go_wp2_with fail
  refine (CE.out _ (bel_tr (bel_al _ _) (bel_al _ _))).mono ?_
  rintro y w1 ⟨rfl, b⟩
  have hE := (KE _).out.below b
  have q3 := hE.c3
  have q4 := hE.c4
  simp only at q3 q4
  have B1 : Hid (Below w.heap.size w w1) := bel_tr (bel_tr (bel_al _ _) (bel_al _ _)) b
  have c0 := bel_cell B1.out HC.out
  clear hE b KE CE
  have c0a : ∀ o, (w1.alloc o).cell? ⟨cb, 0, none⟩ = some (.map (some mb)) := fun o => bel_cell (bel_al _ _) c0
  have c0b : ∀ o o2, ((w1.alloc o).alloc o2).cell? ⟨cb, 0, none⟩ = some (.map (some mb)) := fun o o2 => bel_cell (bel_al _ _) (c0a o)
  have lk1 := fun o => look_run (HO.out (w1.alloc o).drew (bel_tr (bel_tr B1.out (bel_al _ _)) (bel_drew _))) hkey hat hhas
  have lk2 := fun o o2 => look_run (HO.out ((w1.alloc o).alloc o2).drew (bel_tr (bel_tr (bel_tr B1.out (bel_al _ _)) (bel_al _ _)) (bel_drew _))) hkey hat hhas
  clear hat hhas hkey HC
  go_wp2
  go_region
  all_goals
    go_wp2
    go_ret
    exact ⟨rfl, bel_tr (bel_tr (bel_tr B1.out (bel_al _ _)) (bel_al _ _)) (bel_drew _)⟩

theorem putS_len (S : List Ent) (e : Ent) : (putS S e).length ≤ S.length + 1 := by
  have := List.length_filter_le (fun x => !Ent.is x e.ed.c e.ed.l) S
  simp only [putS, List.length_append, List.length_singleton]
  omega

/-- A call is put. -/
theorem CAt.put {O : Nat → Prop} {w W8 w2 W5 : World} {cb mb : Nat} {S : List Ent} {t n : Nat} {D : DataW Value} (h : CAt O w cb mb S t) (hT : Tells D S) {e : Ed} {x : Ans} {s : Sls} {g1 g2 : Option Nat} (b8 : Below w.heap.size w W8) (b2 : Below (W8.setCell ⟨cb, 1, none⟩ (.int .i64 ((t + 1 : Nat) : Int))).heap.size (W8.setCell ⟨cb, 1, none⟩ (.int .i64 ((t + 1 : Nat) : Int))) w2)
    (hOwn : AnOwn W8.heap.size w2 x s g1 g2) (ho : W5.ownsMap Try.prog 61 rv mb n (D.put (kl e.c e.l) (.held (entV ⟨e, x, s, t + 1⟩)))) (ht : w2.mapTurned W5 mb) (hr : Rt e) (hS : S.length ≤ 20) :
    CAt (Grow O w W5) W5 cb mb (putS S ⟨e, x, s, t + 1⟩) (t + 1) ∧ Stay O w W5 := by
  have hcb := h.lt cb h.oC
  have hmb := h.lt mb h.oM
  have s1 : Stay (fun k => k = cb ∨ k = mb) w W8 := Stay.of_below b8
  have s2 : Stay (fun k => k = cb ∨ k = mb) w (W8.setCell ⟨cb, 1, none⟩ (.int .i64 ((t + 1 : Nat) : Int))) := s1.then_same (Stay.setCell _ _ _ (.inl rfl))
  have s3 : Stay (fun k => k = cb ∨ k = mb) w w2 := s2.then_below b2
  have s4 : Stay (fun k => k = mb) w2 W5 := Stay.of_grown ht.grown (fun k hk => by cases hk; rfl)
  have s5 : Stay (fun k => k = cb ∨ k = mb) w W5 := s3.then_same (s4.mono (fun k hk => .inr hk))
  have hz : (W8.setCell ⟨cb, 1, none⟩ (.int .i64 ((t + 1 : Nat) : Int))).heap.size = W8.heap.size := by simp [World.setCell]
  have eC : W5.heap[cb]? = (W8.setCell ⟨cb, 1, none⟩ (.int .i64 ((t + 1 : Nat) : Int))).heap[cb]? :=
    (s4.block cb (Nat.lt_of_lt_of_le hcb s3.size) h.ne).trans (b2.block cb (by have := b8.size; omega))
  have h8 := h.below b8
  have hgood := h.good.put ⟨e, x, s, t + 1⟩ hr
  have hTp := hT.put h.good ⟨e, x, s, t + 1⟩ (rt64 hr).1 (rt64 hr).2
  refine ⟨{ lt := ?_, oC := .inl h.oC, oM := .inl h.oM, ne := h.ne, c0 := ?_, c1 := ?_, f1 := ?_, own := ⟨_, ?_, hTp⟩, good := hgood, most := ?_, old := ?_, top := ?_, rows := ?_ }, s5.mono (fun k hk => hk.elim (fun e => e ▸ h.oC) (fun e => e ▸ h.oM))⟩
  · intro k hk
    rcases hk with hk | hk
    · exact Nat.lt_of_lt_of_le (h.lt k hk) s5.size
    · exact hk.2
  · rw [World.cell?_of_block (a := ⟨cb, 0, none⟩) eC, World.cell?_setCell_other _ _ _ _ (by intro e; injection e with e1 e2; omega)]
    exact h8.c0
  · rw [World.cell?_of_block (a := ⟨cb, 1, none⟩) eC]
    exact World.cell?_setCell_same _ _ _ h8.c1
  · rw [World.frozen?_of_block (a := ⟨cb, 1, none⟩) eC, World.frozen?_setCell]
    exact h8.f1
  · have := ownsMap_tight ho
    rwa [hTp.size] at this
  · exact Nat.le_trans (putS_len S ⟨e, x, s, t + 1⟩) (by omega)
  · refine List.pairwise_append.2 ⟨h.old.filter _, List.pairwise_singleton _ _, fun a ha b hb => ?_⟩
    rw [List.mem_singleton.1 hb]
    have := h.top a (List.mem_filter.1 ha).1
    show a.t < t + 1
    omega
  · intro f hf
    rcases List.mem_append.1 hf with hf | hf
    · have := h.top f (List.mem_filter.1 hf).1; omega
    · rw [List.mem_singleton.1 hf]; exact Nat.le_refl _
  · intro f hf
    rcases List.mem_append.1 hf with hf | hf
    · exact ((h.rows f (List.mem_filter.1 hf).1).stay s5 (fun k hk e => e.elim (fun e => hk.2.1 e) (fun e => hk.2.2 e))).mono (fun k hk _ => ⟨.inl hk.1, hk.2⟩)
    · rw [List.mem_singleton.1 hf]
      have h3 := (hOwn.into.stay s4 (fun k hk e => by have h4 : W8.heap.size ≤ k := hk; have := b8.size; omega))
      exact h3.mono (fun k hk hl => ⟨.inr ⟨Nat.le_trans b8.size hk, hl⟩, by have h4 : W8.heap.size ≤ k := hk; have := b8.size; omega, by have h4 : W8.heap.size ≤ k := hk; have := b8.size; omega⟩)

/-- .. and if there are too many, the oldest goes. -/
def putC (S : List Ent) (e : Ent) : List Ent := if (putS S e).length > 20 then (putS S e).tail else putS S e
structure PutR (O : Nat → Prop) (w : World) (cb mb : Nat) (S : List Ent) (e : Ed) (x : Ans) (t : Nat) (w' : World) : Prop where
  ex : ∃ s, CAt (Grow O w w') w' cb mb (putC S ⟨e, x, s, t⟩) t
  st : Stay O w w'

theorem kept_none {D : DataW Value} {S : List Ent} (hT : Tells D S) (hg : Good S) {e : Ed} (hr : Rt e) (h : ∀ f, look S e.c e.l = some f → f.ed = e) : ∃ (kv : KV) (b : Bool), D.atKey (kl e.c e.l) (.held (mkV zeroK)) = .held (mkV kv) ∧ Maps.has D (kl e.c e.l) = b ∧ (b = false ∨ b = true ∧ (kv.b.toList == (encS e).toList) = true) := by
  have hat := hT.at hg (rt64 hr).1 (rt64 hr).2 (.held (mkV zeroK))
  have hhas := hT.has hg (rt64 hr).1 (rt64 hr).2
  cases hl : look S e.c e.l with
  | none =>
    rw [hl] at hat hhas
    exact ⟨zeroK, false, hat, hhas, .inl rfl⟩
  | some f =>
    rw [hl] at hat hhas
    refine ⟨kvE f, true, hat, hhas, .inr ⟨rfl, ?_⟩⟩
    show ((encS f.ed).toList == (encS e).toList) = true
    rw [h f hl, same_eq, decide_eq_true rfl]

set_option maxRecDepth 100000 in
set_option maxHeartbeats 16000000 in
/-- What is put. -/
theorem put_ok {O : Nat → Prop} {w : World} {cb mb : Nat} {S : List Ent} {t : Nat} (h : CAt O w cb mb S t) (ht : t ≤ 100000) (hS : S.length ≤ 20) {e : Ed} {a : Option Addr} {m q : Nat} (hnm : Nm w a m e.ls) (hr : Rt e) {x : Ans} {s : Sls} {O2 : Nat → Prop} (hx : AnIn O2 w x s) (hO2 : ∀ k, O2 k → ¬ k = cb) (hl : ∀ f, look S e.c e.l = some f → f.ed = e) :
    Calls Try.prog 7 #[.pointer (some ⟨cb, 0, none⟩), .int .i64 e.c, .int .i64 e.l, edV e a m q, anV x s] w fun y w' => y = .returned (.int .i64 0) ∧ PutR O w cb mb S e x (t + 1) w' := by
  have CE : Hid (∀ W, Below w.heap.size w W → Calls Try.prog 15 #[edV e a m q] W fun y w' => y = .returned (.tuple #[.string (encS e), .int .i64 0]) ∧ Below W.heap.size W w') := fun W hb => encode_yes (hnm.below hb) hr _ rfl
  obtain ⟨D, ho, hT⟩ := h.own
  obtain ⟨kv, bb, hat, hhas, hcase⟩ := kept_none hT h.good hr hl
  have h64 := rt64 hr
  have hkey := keyI h64.1 h64.2
  have HO : Hid (∀ W, Stay (fun k => k = cb) w W → W.ownsMap Try.prog 61 rv mb S.length D) := fun W hb => by
    obtain ⟨es, clock, h1, h2⟩ := ho
    exact ⟨es, clock, (hb.block mb (Array.getElem?_eq_some_iff.1 h1).1 (fun e => h.ne e.symm)).trans h1, h2⟩
  have HC : Hid (w.cell? ⟨cb, 0, none⟩ = some (.map (some mb)) ∧ w.cell? ⟨cb, 1, none⟩ = some (.int .i64 (t : Int)) ∧ w.frozen? ⟨cb, 1, none⟩ = false ∧ cb < w.heap.size) := ⟨h.c0, h.c1, h.f1, h.lt _ h.oC⟩
  have HNE : Hid (¬ cb = mb) := h.ne
  have HMB : Hid (mb < w.heap.size) := h.lt _ h.oM
  have HPUT : Hid (∀ W8 w2 W5 s g1 g2 n, Below w.heap.size w W8 → Below (W8.setCell ⟨cb, 1, none⟩ (.int .i64 ((t + 1 : Nat) : Int))).heap.size (W8.setCell ⟨cb, 1, none⟩ (.int .i64 ((t + 1 : Nat) : Int))) w2 → AnOwn W8.heap.size w2 x s g1 g2 → W5.ownsMap Try.prog 61 rv mb n (D.put (kl e.c e.l) (.held (entV ⟨e, x, s, t + 1⟩))) → w2.mapTurned W5 mb → CAt (Grow O w W5) W5 cb mb (putS S ⟨e, x, s, t + 1⟩) (t + 1) ∧ Stay O w W5) := fun W8 w2 W5 s g1 g2 n b8 b2 hOwn ho5 ht5 => h.put hT b8 b2 hOwn ho5 ht5 hr hS
  have CP : Hid (∀ W, Stay (fun k => k = cb) w W → Calls Try.prog 16 #[anV x s] W fun e w' => AnsR W.heap.size x e w' ∧ Below W.heap.size W w') := fun W hb => copied_val (hx.stay hb hO2)
  have HMU : Hid (∀ w2 (s2 : Sls), Stay (fun k => k = cb) w w2 → ∃ W5, (Instr.mapUpdate 55 (.map (some mb)) (.agg #[.int .i64 e.c, .int .i64 e.l]) (.agg #[.string (encS e), .int .i64 x.err, .int .i64 x.bk.i, .int .i64 x.bk.g, .int .i64 x.bk.l, .slice s2.a1 x.names.length s2.c1, .string x.path, .bool x.dir, .int .i64 x.quota, .slice s2.a2 x.blocks.length s2.c2, .int .i64 x.writer, .int .i64 x.n, .int .i64 ((t : Int) + 1)])).run Try.prog w2 = .ok () W5 ∧ W5.ownsMap Try.prog 61 rv mb (S.length + 1) (D.put (kl e.c e.l) (.held (entV ⟨e, x, s2, t + 1⟩))) ∧ w2.mapTurned W5 mb) := fun w2 s2 hs2 =>
    (HO.out w2 hs2).store lawI Try.underlying55 (by unfold maxLen; omega) hkey (rv_mk (kvE ⟨e, x, s2, t + 1⟩))
  have ht1 : Hid (((t : Int) + 1) = ((t + 1 : Nat) : Int)) := by show (t : Int) + 1 = _; omega
  clear h hT ho hx hO2 hl hnm hr h64
  obtain ⟨err, ⟨b1, b2, b3⟩, names, path, dir, quota, blocks, writer, nn⟩ := x
  obtain ⟨a1, c1, a2, c2⟩ := s
  obtain ⟨k0, p, t0, c, k, n, ls⟩ := e
  obtain ⟨EE, hEE⟩ : ∃ E, encS ⟨k0, p, t0, c, k, n, ls⟩ = E := ⟨_, rfl⟩
  have HEE : Hid (encS ⟨k0, p, t0, c, k, n, ls⟩ = EE) := hEE
  rw [hEE] at CE hcase HMU
  obtain ⟨kb, ke, ki, kg, kll, ka1, kn1, kc1, kp, kd, kq, ka2, kn2, kc2, kwr, kn, kt⟩ := kv
  unfold mkV at hat
  unfold edV at CE ⊢
  unfold anV at CP ⊢
  simp only at CE CP HMU hat hhas hkey hcase ⊢
  obtain ⟨n1, hn1⟩ : ∃ n, n = names.length := ⟨_, rfl⟩
  obtain ⟨n2, hn2⟩ : ∃ n, n = blocks.length := ⟨_, rfl⟩
  rw [← hn1, ← hn2] at CP
  rw [← hn1, ← hn2]
  clear hn1 hn2 hEE
  have KE : ∀ o, Hid (EdAt ((w.alloc (.cells #[.int .i64 k0, .string p, .string t0, .int .i64 c, .int .i64 k, .int .i64 n, .slice a m q] 32)).alloc o) w.heap.size ⟨k0, p, t0, c, k, n, ls⟩ a m q) := fun o => (EdAt.new w 32 ⟨k0, p, t0, c, k, n, ls⟩ a m q).below (bel_al _ _)
  have KA : Hid (Cells ((w.alloc (.cells #[.int .i64 k0, .string p, .string t0, .int .i64 c, .int .i64 k, .int .i64 n, .slice a m q] 32)).alloc (.cells #[.int .i64 err, .int .i64 b1, .int .i64 b2, .int .i64 b3, .slice a1 n1 c1, .string path, .bool dir, .int .i64 quota, .slice a2 n2 c2, .int .i64 writer, .int .i64 nn] 41)) (w.heap.size + 1) [.int .i64 err, .int .i64 b1, .int .i64 b2, .int .i64 b3, .slice a1 n1 c1, .string path, .bool dir, .int .i64 quota, .slice a2 n2 c2, .int .i64 writer, .int .i64 nn]) := cells2 _ _ _ _
  rcases hcase with rfl | ⟨rfl, hbb⟩
  all_goals
    go_enter Try.func7, Try.ntmps7
    go_wp2_with fail
    refine (CE.out _ (bel_tr (bel_al _ _) (bel_al _ _))).mono ?_
    rintro y w1 ⟨rfl, b⟩
    have hE := (KE _).out.below b
    have q3 := hE.c3
    have q4 := hE.c4
    simp only at q3 q4
    have B1 : Hid (Below w.heap.size w w1) := bel_tr (bel_tr (bel_al _ _) (bel_al _ _)) b
    have KA1 : Hid (Cells w1 (w.heap.size + 1) [.int .i64 err, .int .i64 b1, .int .i64 b2, .int .i64 b3, .slice a1 n1 c1, .string path, .bool dir, .int .i64 quota, .slice a2 n2 c2, .int .i64 writer, .int .i64 nn]) := KA.out.below b
    have c0 := bel_cell B1.out HC.out.1
    have c1' := bel_cell B1.out HC.out.2.1
    have f1' := bel_froz B1.out HC.out.2.1 HC.out.2.2.1
    clear hE b KE CE KA
    have c0a : ∀ o, (w1.alloc o).cell? ⟨cb, 0, none⟩ = some (.map (some mb)) := fun o => bel_cell (bel_al _ _) c0
    have c0b : ∀ o o2, ((w1.alloc o).alloc o2).cell? ⟨cb, 0, none⟩ = some (.map (some mb)) := fun o o2 => bel_cell (bel_al _ _) (c0a o)
    have c1b : ∀ o o2, ((w1.alloc o).alloc o2).cell? ⟨cb, 1, none⟩ = some (.int .i64 (t : Int)) := fun o o2 => bel_cell (bel_tr (bel_al _ _) (bel_al _ _)) c1'
    have f1b : ∀ o o2, ((w1.alloc o).alloc o2).frozen? ⟨cb, 1, none⟩ = false := fun o o2 => bel_froz (bel_tr (bel_al _ _) (bel_al _ _)) c1' f1'
    have lk1 := fun o => look_run (HO.out (w1.alloc o).drew (Stay.of_below (bel_tr (bel_tr B1.out (bel_al _ _)) (bel_drew _)))) hkey hat hhas
    have lk2 := fun o o2 => look_run (HO.out ((w1.alloc o).alloc o2).drew (Stay.of_below (bel_tr (bel_tr (bel_tr B1.out (bel_al _ _)) (bel_al _ _)) (bel_drew _)))) hkey hat hhas
    clear hat hhas hkey
    go_wp2
    go_region
    go_wp2
    obtain ⟨W8, hW8⟩ : ∃ W8, ((w1.alloc (.cells #[.int .i64 c, .int .i64 k] 61)).alloc (.cells #[.string kb, .int .i64 ke, .int .i64 ki, .int .i64 kg, .int .i64 kll, .slice ka1 kn1 kc1, .string kp, .bool kd, .int .i64 kq, .slice ka2 kn2 kc2, .int .i64 kwr, .int .i64 kn, .int .i64 kt] 63)) = W8 := ⟨_, rfl⟩
    have B8 : Hid (Below w.heap.size w W8) := by rw [← hW8]; exact bel_tr (bel_tr B1.out (bel_al _ _)) (bel_al _ _)
    have KK8 : Hid (Cells W8 w1.heap.size [.int .i64 c, .int .i64 k]) := by rw [← hW8]; exact (Cells.new _ _ [.int .i64 c, .int .i64 k]).below (bel_al _ _)
    have KA8 : Hid (Cells W8 (w.heap.size + 1) [.int .i64 err, .int .i64 b1, .int .i64 b2, .int .i64 b3, .slice a1 n1 c1, .string path, .bool dir, .int .i64 quota, .slice a2 n2 c2, .int .i64 writer, .int .i64 nn]) := by rw [← hW8]; exact (KA1.out.below (bel_al _ _)).below (bel_al _ _)
    rw [hW8]
    clear hW8 c0a c0b c1b f1b lk1 lk2 c0 c1' f1' KA1 q3 q4
    have S9 : Hid (Stay (fun k => k = cb) w (W8.setCell ⟨cb, 1, none⟩ (.int .i64 ((t : Int) + 1))).drew) := ((Stay.of_below (O := fun k => k = cb) B8.out).then_same (Stay.setCell (O := fun k => k = cb) W8 ⟨cb, 1, none⟩ (.int .i64 ((t : Int) + 1)) rfl)).then_below (bel_drew _)
    have SS9 : Hid (Stay (fun k => k = cb) W8 (W8.setCell ⟨cb, 1, none⟩ (.int .i64 ((t : Int) + 1))).drew) := (Stay.setCell (O := fun k => k = cb) _ _ _ rfl).then_below (bel_drew _)
    have C9 : Hid ((W8.setCell ⟨cb, 1, none⟩ (.int .i64 ((t : Int) + 1))).drew.cell? ⟨cb, 0, none⟩ = some (.map (some mb)) ∧ (W8.setCell ⟨cb, 1, none⟩ (.int .i64 ((t : Int) + 1))).drew.cell? ⟨cb, 1, none⟩ = some (.int .i64 ((t : Int) + 1))) :=
      ⟨by show (W8.setCell ⟨cb, 1, none⟩ (.int .i64 ((t : Int) + 1))).cell? ⟨cb, 0, none⟩ = _; rw [World.cell?_setCell_other _ _ _ _ (by intro e; injection e with e1 e2; omega)]; exact bel_cell B8.out HC.out.1,
       by show (W8.setCell ⟨cb, 1, none⟩ (.int .i64 ((t : Int) + 1))).cell? ⟨cb, 1, none⟩ = _; exact World.cell?_setCell_same _ _ _ (bel_cell B8.out HC.out.2.1)⟩
    have KK9 : Hid (Cells (W8.setCell ⟨cb, 1, none⟩ (.int .i64 ((t : Int) + 1))).drew w1.heap.size [.int .i64 c, .int .i64 k]) := KK8.out.stay SS9.out (by have := HC.out.2.2.2; have := B1.out.size; omega)
    have KA9 : Hid (Cells (W8.setCell ⟨cb, 1, none⟩ (.int .i64 ((t : Int) + 1))).drew (w.heap.size + 1) [.int .i64 err, .int .i64 b1, .int .i64 b2, .int .i64 b3, .slice a1 n1 c1, .string path, .bool dir, .int .i64 quota, .slice a2 n2 c2, .int .i64 writer, .int .i64 nn]) := KA8.out.stay SS9.out (by have := HC.out.2.2.2; omega)
    have BB : Hid (Below (W8.setCell ⟨cb, 1, none⟩ (.int .i64 ((t : Int) + 1))).heap.size (W8.setCell ⟨cb, 1, none⟩ (.int .i64 ((t : Int) + 1))) (W8.setCell ⟨cb, 1, none⟩ (.int .i64 ((t : Int) + 1))).drew ∧ (W8.setCell ⟨cb, 1, none⟩ (.int .i64 ((t : Int) + 1))).drew.heap.size = W8.heap.size) := ⟨bel_drew _, by simp [World.setCell, World.drew]⟩
    generalize hW9 : (W8.setCell ⟨cb, 1, none⟩ (.int .i64 ((t : Int) + 1))).drew = W9 at S9 SS9 C9 KK9 KA9 BB ⊢
    clear hW9
    have HS0 : Hid (∀ W, Stay (fun k => k = mb) W9 W → W.cell? ⟨cb, 0, none⟩ = some (.map (some mb)) ∧ W.cell? ⟨cb, 1, none⟩ = some (.int .i64 ((t : Int) + 1)) ∧ W.cell? ⟨w1.heap.size, 0, none⟩ = some (.int .i64 c) ∧ W.cell? ⟨w1.heap.size, 1, none⟩ = some (.int .i64 k) ∧ W.cell? ⟨w.heap.size + 1, 0, none⟩ = some (.int .i64 err) ∧ W.cell? ⟨w.heap.size + 1, 1, none⟩ = some (.int .i64 b1) ∧ W.cell? ⟨w.heap.size + 1, 2, none⟩ = some (.int .i64 b2) ∧ W.cell? ⟨w.heap.size + 1, 3, none⟩ = some (.int .i64 b3) ∧ W.cell? ⟨w.heap.size + 1, 4, none⟩ = some (.slice a1 n1 c1) ∧ W.cell? ⟨w.heap.size + 1, 5, none⟩ = some (.string path) ∧ W.cell? ⟨w.heap.size + 1, 6, none⟩ = some (.bool dir) ∧ W.cell? ⟨w.heap.size + 1, 7, none⟩ = some (.int .i64 quota) ∧ W.cell? ⟨w.heap.size + 1, 8, none⟩ = some (.slice a2 n2 c2) ∧ W.cell? ⟨w.heap.size + 1, 9, none⟩ = some (.int .i64 writer) ∧ W.cell? ⟨w.heap.size + 1, 10, none⟩ = some (.int .i64 nn)) := fun W hW =>
      ⟨(World.cell?_of_block (a := ⟨cb, 0, none⟩) (hW.block cb (World.block_lt_of_cell? _ _ C9.out.1) HNE.out)).trans C9.out.1, (World.cell?_of_block (a := ⟨cb, 1, none⟩) (hW.block cb (World.block_lt_of_cell? _ _ C9.out.1) HNE.out)).trans C9.out.2,
       (KK9.out.stay hW (by have := HMB.out; have := B1.out.size; omega)).val 0 _ rfl, (KK9.out.stay hW (by have := HMB.out; have := B1.out.size; omega)).val 1 _ rfl,
       (KA9.out.stay hW (by have := HMB.out; omega)).val 0 _ rfl, (KA9.out.stay hW (by have := HMB.out; omega)).val 1 _ rfl, (KA9.out.stay hW (by have := HMB.out; omega)).val 2 _ rfl, (KA9.out.stay hW (by have := HMB.out; omega)).val 3 _ rfl, (KA9.out.stay hW (by have := HMB.out; omega)).val 4 _ rfl, (KA9.out.stay hW (by have := HMB.out; omega)).val 5 _ rfl, (KA9.out.stay hW (by have := HMB.out; omega)).val 6 _ rfl, (KA9.out.stay hW (by have := HMB.out; omega)).val 7 _ rfl, (KA9.out.stay hW (by have := HMB.out; omega)).val 8 _ rfl, (KA9.out.stay hW (by have := HMB.out; omega)).val 9 _ rfl, (KA9.out.stay hW (by have := HMB.out; omega)).val 10 _ rfl⟩
    have M1 : Hid True := trivial
    go_region_held3 (fun w' => w'.cell? ⟨cb, 0, none⟩ = some (.map (some mb)) ∧ w'.cell? ⟨cb, 1, none⟩ = some (.int .i64 ((t : Int) + 1)) ∧ w'.cell? ⟨w1.heap.size, 0, none⟩ = some (.int .i64 c) ∧ w'.cell? ⟨w1.heap.size, 1, none⟩ = some (.int .i64 k) ∧ w'.cell? ⟨w.heap.size + 1, 0, none⟩ = some (.int .i64 err) ∧ w'.cell? ⟨w.heap.size + 1, 1, none⟩ = some (.int .i64 b1) ∧ w'.cell? ⟨w.heap.size + 1, 2, none⟩ = some (.int .i64 b2) ∧ w'.cell? ⟨w.heap.size + 1, 3, none⟩ = some (.int .i64 b3) ∧ w'.cell? ⟨w.heap.size + 1, 4, none⟩ = some (.slice a1 n1 c1) ∧ w'.cell? ⟨w.heap.size + 1, 5, none⟩ = some (.string path) ∧ w'.cell? ⟨w.heap.size + 1, 6, none⟩ = some (.bool dir) ∧ w'.cell? ⟨w.heap.size + 1, 7, none⟩ = some (.int .i64 quota) ∧ w'.cell? ⟨w.heap.size + 1, 8, none⟩ = some (.slice a2 n2 c2) ∧ w'.cell? ⟨w.heap.size + 1, 9, none⟩ = some (.int .i64 writer) ∧ w'.cell? ⟨w.heap.size + 1, 10, none⟩ = some (.int .i64 nn))
      (first | exact HS0.out _ (Stay.of_below (bel_drew _)) | exact HS0.out _ ST2.out | exact HS0.out _ ST5.out)
      (first
        | (go_at_call 16; have m1 := M1.out; refine (CP.out _ (S9.out.then_below (bel_drew _))).mono ?_; rintro y w2 ⟨⟨s2, g1, g2, rfl, hOwn⟩, b2'⟩; obtain ⟨W5, hmu, ho5, ht5⟩ := HMU.out w2 s2 (S9.out.then_below (bel_tr (bel_drew _) b2')); have ST2 : Hid (Stay (fun k => k = mb) W9 w2) := Stay.of_below (bel_tr (bel_drew _) b2'); have ST5 : Hid (Stay (fun k => k = mb) W9 W5) := ST2.out.then_same (Stay.of_grown ht5.grown (fun k hk => by cases hk; rfl)); have HOW : Hid (AnOwn W9.drew.heap.size w2 ⟨err, ⟨b1, b2, b3⟩, names, path, dir, quota, blocks, writer, nn⟩ s2 g1 g2) := hOwn; have HB2 : Hid (Below W9.heap.size W9 w2) := bel_tr (bel_drew _) b2'; have HO5 : Hid _ := ho5; have HT5 : Hid (w2.mapTurned W5 mb) := ht5; clear hOwn b2' ho5 ht5 m1 M1; unfold anV; simp only))
    all_goals
      have hcr := HPUT.out W8 w2 W5 s2 g1 g2 _ B8.out (by rw [← ht1.out]; exact bel_tr BB.out.1 HB2.out) (HOW.out.mono (Nat.le_of_eq BB.out.2.symm)) HO5.out HT5.out
      have HC5 : Hid (CAt (Grow O w W5) W5 cb mb (putS S ⟨⟨k0, p, t0, c, k, n, ls⟩, ⟨err, ⟨b1, b2, b3⟩, names, path, dir, quota, blocks, writer, nn⟩, s2, t + 1⟩) (t + 1)) := hcr.1
      have HS5 : Hid (Stay O w W5) := hcr.2
      have cc0 := hcr.1.c0
      obtain ⟨D5, hD5, hT5⟩ := hcr.1.own
      have hsz5 := hT5.size
      have HLEN : Hid ((putS S ⟨⟨k0, p, t0, c, k, n, ls⟩, ⟨err, ⟨b1, b2, b3⟩, names, path, dir, quota, blocks, writer, nn⟩, s2, t + 1⟩).length ≤ 21) := hcr.1.most
      clear hcr hT5 HO5 HT5 HOW HB2 ST2 ST5 HS0 S9 SS9 C9 KK9 KA9 BB KK8 KA8 hmu
      generalize hP : putS S ⟨⟨k0, p, t0, c, k, n, ls⟩, ⟨err, ⟨b1, b2, b3⟩, names, path, dir, quota, blocks, writer, nn⟩, s2, t + 1⟩ = P5 at *
      have HP : Hid _ := hP
      clear hP
      obtain ⟨N, hN⟩ : ∃ N, P5.length = N := ⟨_, rfl⟩
      rw [hN] at hsz5
      have HN : Hid (P5.length = N) := hN
      by_cases h20 : P5.length > 20
      · have hgt : decide ((20 : Int) < (N : Int)) = true := decide_eq_true (by omega)
        have H20 : Hid (P5.length > 20) := h20
        clear hN h20
        obtain ⟨e0, r, rfl⟩ : ∃ e0 r, P5 = e0 :: r := by
          cases P5 with
          | nil => have := H20.out; simp at this
          | cons e0 r => exact ⟨e0, r, rfl⟩
        go_wp2_with (first
          | (at_len; refine wpList_len_own _ rfl _ 55 rfl 61 63 Try.underlying55 rv mb _ D5 rfl hD5 ?_; rw [hsz5])
          | (go_at_call 17; refine (dropOldest_val HC5.out (by omega)).mono ?_; rintro y w6 ⟨rfl, hC6, hS6⟩; have HC6 : Hid _ := hC6; have HS6 : Hid (Stay (Grow O w W5) W5 w6) := hS6; clear hC6 hS6))
        go_ret
        refine ⟨rfl, ⟨⟨s2, ?_⟩, HS5.out.andThen HS6.out⟩⟩
        unfold putC
        rw [HP.out, if_pos H20.out, List.tail_cons]
        exact HC6.out.wide (fun k hk => hk.imp id (fun e => ⟨e.1, Nat.lt_of_lt_of_le e.2 HS6.out.size⟩)) (fun k hk => hk.elim (fun e => HC6.out.lt k (.inl e)) (fun e => e.2))
      · have hgt : decide ((20 : Int) < (N : Int)) = false := decide_eq_false (by omega)
        have H20 : Hid (¬ P5.length > 20) := h20
        clear hN h20
        go_wp2_with (at_len; refine wpList_len_own _ rfl _ 55 rfl 61 63 Try.underlying55 rv mb _ D5 rfl hD5 ?_; rw [hsz5])
        go_ret
        refine ⟨rfl, ⟨⟨s2, ?_⟩, HS5.out⟩⟩
        unfold putC
        rw [HP.out, if_neg H20.out]
        exact HC5.out

end Go.Proofs.Ythogpaojdlfjcaa.Rty
