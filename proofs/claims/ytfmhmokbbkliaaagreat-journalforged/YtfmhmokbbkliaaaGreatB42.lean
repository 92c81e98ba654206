/- Part 42 of the proof: JrnL3, JrnL4, JrnA4, JrnB6, JrnCp, JrnB7. -/
import Derived.Test.YtfmhmokbbkliaaaGreatB38
import Derived.Test.YtfmhmokbbkliaaaGreatB39
import Derived.Test.YtfmhmokbbkliaaaGreatB41
import Derived.BigQuiet
import Derived.Lib.QuietBelow

/- What the laws' walks need: a log that was told, laid beside the node; an earlier epoch asked for. -/
namespace Go.Proofs.YtfmhmokbbkliaaaGreat.Jrn
open Go.RowKit Go.Proofs.YtfmhmokbbkliaaaGreat Go.Proofs.YtfmhmokbbkliaaaGreat.Wir Go.Proofs.YtfmhmokbbkliaaaGreat.Lgg Go.Proofs.YtfmhmokbbkliaaaGreat.Sep
set_option linter.unusedVariables false

theorem put_cel {w w1 w2 : World} {O : Nat → Prop} {L : List Th} {k n : Nat} {sl : Value} {cs : List Value} {g : Option Nat} (h : Hz w O L w1) (hb : Below w1.heap.size w1 w2) (hC : Cel (fun q => w1.heap.size ≤ q) w2 k sl n cs g) : Hz w O (celT k sl n cs g :: L) w2 := by
  refine h.put hb ⟨?_, fun q hq => hq.2⟩
  cases hC with
  | nil h1 h2 h3 => exact .nil h1 h2 h3
  | row g cap h1 h2 h3 h4 h5 h6 h7 h8 => exact .row g cap h1 h2 ⟨h3, h4⟩ h4 h5 h6 h7 h8
theorem cel_lie {w w1 : World} {O : Nat → Prop} {L : List Th} {n : Nat} {sl : Option Addr} {c : Nat} {es : List En} {g : Option Nat} (h : Hz w O L w1) (i : Nat) (hi : L[i]? = some (celT 2 (.slice sl n c) n (rowC enC es) g)) (hn : es.length = n) : ∃ O1, Lie enC O1 w1 sl es := by
  subst hn
  obtain ⟨O1, k⟩ := h.get i hi
  exact ⟨O1, Lie.of_cel wideN k.1⟩

theorem late_ask {k ep : Int} {es : List En} {x : En} {raw : ByteArray} {r : Rq} (hk : keepN k % 8 ≤ 4) (h0 : -9223372036854775808 ≤ ep) (h1 : ep ≤ 9223372036854775807) (hr : readQ (askT k ep es x raw) = some r) : match r with | .prom e => e = ep | .acc e _ => e = ep | .add e _ => e = ep := by
  unfold askT at hr
  split at hr
  · rw [read_prom ep h0 h1] at hr
    split at hr
    · cases hr; rfl
    · cases hr
  · split at hr
    · split at hr
      · rename_i h2
        rw [read_acc ep es ((rtB_iff _ _).1 h2)] at hr
        split at hr
        · cases hr; rfl
        · cases hr
      · rw [read_small] at hr; cases hr
    · try rw [if_pos hk] at hr
      split at hr
      · rename_i h2
        rw [read_add ep h0 h1 x h2] at hr
        split at hr
        · cases hr; rfl
        · cases hr
      · rw [read_small] at hr; cases hr
theorem hand_old {ds : DS} {j : Nd} {k ep : Int} {es : List En} {x : En} {raw : ByteArray} (hg : j.gone = false) (hk : keepN k % 8 ≤ 4) (h0 : -9223372036854775808 ≤ ep) (h1 : ep ≤ 9223372036854775807) (hp : ep < j.p) : (handQ ds j (askT k ep es x raw)).j = j := by
  refine hand_late hg fun r hr => ?_
  have h := late_ask hk h0 h1 hr
  cases r <;> simp only at h ⊢ <;> omega

end Go.Proofs.YtfmhmokbbkliaaaGreat.Jrn

/- A node in a law's walk: the power of its disk goes, a crash. -/
namespace Go.Proofs.YtfmhmokbbkliaaaGreat.Jrn
open Go.RowKit Go.Proofs.YtfmhmokbbkliaaaGreat Go.Proofs.YtfmhmokbbkliaaaGreat.Wir Go.Proofs.YtfmhmokbbkliaaaGreat.Lgg Go.Proofs.YtfmhmokbbkliaaaGreat.Sep
set_option linter.unusedVariables false

theorem dv_noneN (N : Nat) : Dv N ⟨400000, 0, false, []⟩ nd0 := ⟨run_none _, fil_none N, .inl ⟨rfl, rfl⟩, nd0_ok, rfl⟩
section
variable {w w1 : World} {O : Nat → Prop} {M : List Th} {jp pd : Nat} {ds ds' : DS} {j : Nd}
theorem fuse_hz (h : Hz w O (jr jp pd ds j :: M) w1) (n f : Int) (hn : -9223372036854775808 ≤ n ∧ n < 9223372036854775808) (hf : max n 0 = f) (hd : ({ ds with fuse := f } : DS) = ds') :
    Calls Tryz.prog 24 #[.pointer (some ⟨pd, 0, none⟩), .int .i64 n] w1 fun e w' => e = .returned (.tuple #[]) ∧ Hz w O (jr jp pd ds' j :: M) w' := by
  obtain ⟨a, c, g, h⟩ := jr_open h
  refine (h.act (T := dsk pd ds) (T' := dsk pd ds') 1 rfl (dsk_acts fun w0 K hk => ?_)).mono fun e w' ⟨h1, h2⟩ => ⟨h1, jr_fold (a := a) (c := c) (g := g) h2⟩
  rw [← hd]
  exact dk_fuse hk n f hn hf
theorem down_hz (h : Hz w O (jr jp pd ds j :: M) w1) (v : Bool) (hv : ds.down = v) :
    Calls Tryz.prog 36 #[.pointer (some ⟨pd, 0, none⟩)] w1 fun e w' => e = .returned (.bool v) ∧ w' = w1 := by
  obtain ⟨a, c, g, h⟩ := jr_open h
  obtain ⟨O1, k1⟩ := h.get (T := dsk pd ds) 1 rfl
  exact down_val k1 v hv
end
theorem crash_hz {w w1 : World} {M : List Th} {jp pd : Nat} {ds ds' : DS} {j : Nd} (h : Hz w (fun _ => False) (jr jp pd ds j :: M) w1) (ka : Option Addr) (kb koff kcap m : Nat) (ks : List Int) (hm : ks.length = m) (hmx : m ≤ maxLen) (hI : Ints w .i64 ka kb koff ks) (hks : ∀ k ∈ ks, -9223372036854775808 ≤ k ∧ k ≤ 9223372036854775807) (hd : (⟨ds.room, 0, false, crashL ks ds.S⟩ : DS) = ds') :
    Calls Tryz.prog 26 #[.pointer (some ⟨pd, 0, none⟩), .slice ka m kcap] w1 fun e w' => e = .returned (.tuple #[]) ∧ Hz w (fun _ => False) (dsk pd ds' :: M) w' := by
  obtain ⟨a, c, g, h⟩ := jr_open h
  obtain ⟨O1, k1, k2, k3⟩ := h.stars.out (T := dsk pd ds) 1 rfl
  have hl := (dsk pd ds).lt k1
  refine (crash_val k1 ka kb koff kcap m ks hm hmx (hI.below (hz_bel h)) (fun hp e => ?_) hks).mono fun e w' ⟨e1, e2, e3⟩ => ⟨e1, ?_⟩
  · have h1 := hI.lt (by omega)
    rcases k2 kb e with q | q
    · exact q
    · omega
  · rw [hd] at e2
    have h4 := h.of (k3 (dsk pd ds') w' (dat_wide e2 (fun k hk => .inl hk) (grow_lt hl e3.size)) e3)
    exact (h4.erase 2).erase 0
/-- Nothing is a row, too. -/
theorem put_nil {w w1 : World} {O : Nat → Prop} {L : List Th} (h : Hz w O L w1) : Hz w O (celT 2 (.slice none 0 0) 0 (rowC enC []) none :: L) w1 := h.put (Below.refl _ _) ⟨.nil rfl rfl rfl, fun q hq => hq.2⟩
end Go.Proofs.YtfmhmokbbkliaaaGreat.Jrn

/- Entries, an entry that came in, opened; requests, made by the program and by the reference. -/
namespace Go.Proofs.YtfmhmokbbkliaaaGreat.Jrn
open Go.ChangeShapes Go.WideShapes Go.ChangeAt Go.RowKit Go.Proofs.YtfmhmokbbkliaaaGreat Go.Proofs.YtfmhmokbbkliaaaGreat.Wir Go.Proofs.YtfmhmokbbkliaaaGreat.Lgg
set_option linter.unusedVariables false

section
variable {H : Type} {enc : TypeId × Value → H} {W : World} {base : Nat} {spare : Nat → Bool} {held : Bool}
theorem open_ens {a : Option Addr} {len cap : Nat} {d : DataW H} {ps : List MemPlace} (h : DataW.Trod enc Tryz.prog W base spare held 22 (.slice a len cap) d ps) : ∃ es : List En, es.length = len ∧ LgIn W a es := by
  obtain ⟨fuel, hf⟩ := h
  obtain ⟨a', m, c, es, e, hm, hL⟩ := open_ensT hf
  simp only [Value.slice.injEq] at e
  obtain ⟨rfl, rfl, rfl⟩ := e
  exact ⟨es, hm, hL⟩
set_option maxRecDepth 100000 in
theorem open_entry {v : Value} {d : DataW H} {ps : List MemPlace} {r : Reach} {b0 : Nat} (hval : Value.okWide Tryz.prog W r b0 24 v) (h : DataW.Trod enc Tryz.prog W base spare held 24 v d ps) : ∃ x : En, v = .agg #[.int .i64 x.tx, .string x.d] ∧ x.d.size ≤ maxLen ∧ -9223372036854775808 ≤ x.tx ∧ x.tx ≤ 9223372036854775807 := by
  obtain ⟨cs, rfl, hsz⟩ := okWide_struct Tryz.underlying24 hval
  obtain ⟨fuel, hf⟩ := h
  have c2 : Tryz.prog.cellsOf 24 = 2 := by kernel_rfl
  rw [c2] at hsz
  match cs, hsz with
  | ⟨[v0, v1]⟩, _ =>
    have hf2 : DataW.trod enc Tryz.prog W base spare held fuel 24 [v0, v1] = some (d, ps) := hf
    obtain ⟨x, e, k⟩ := open_enB hf2
    simp [enC] at e
    obtain ⟨rfl, rfl⟩ := e
    exact ⟨x, rfl, k⟩
end

theorem acc_both {w : World} {a : Option Addr} {es : List En} (hL : LgIn w a es) (ep : Int) (n c : Nat) (hn : es.length = n) : ∃ (A : ByteArray) (q : Int) (ok : Bool), ((q = 0 ∧ ok = true) ∨ (q = 1 ∧ ok = false)) ∧
    (∀ W, Below w.heap.size w W → Calls Tryz.prog 10 #[.int .i64 ep, .slice a n c] W fun e w' => e = .returned (.tuple #[.string A, .int .i64 q]) ∧ Below W.heap.size W w') ∧
    ∀ W, Below w.heap.size w W → Calls Tryz.prog 11 #[.int .i64 ep, .slice a n c] W fun e w' => e = .returned (.tuple #[.string A, .bool ok]) ∧ Below W.heap.size W w' := by
  by_cases hR : RtL ⟨ep, es⟩
  · exact ⟨_, 0, true, .inl ⟨rfl, rfl⟩, fun W hb => accept_yes (hL.row.below hb) ep n c hn hR _ rfl, fun W hb => refAcceptQ_yes (hL.row.below hb) ep n c hn hR _ rfl⟩
  · exact ⟨_, 1, false, .inr ⟨rfl, rfl⟩, fun W hb => accept_no (hL.row.below hb) hL.small ep n c hn hR, fun W hb => refAcceptQ_no (hL.row.below hb) hL.small ep n c hn hR⟩
theorem add_both (ep : Int) (h0 : -9223372036854775808 ≤ ep) (h1 : ep ≤ 9223372036854775807) (x : En) (hs : x.d.size ≤ maxLen) : ∃ (A : ByteArray) (q : Int) (ok : Bool), ((q = 0 ∧ ok = true) ∨ (q = 1 ∧ ok = false)) ∧
    (∀ W, Calls Tryz.prog 12 #[.int .i64 ep, .agg #[.int .i64 x.tx, .string x.d]] W fun e w' => e = .returned (.tuple #[.string A, .int .i64 q]) ∧ Below W.heap.size W w') ∧
    ∀ W, Calls Tryz.prog 13 #[.int .i64 ep, .agg #[.int .i64 x.tx, .string x.d]] W fun e w' => e = .returned (.tuple #[.string A, .bool ok]) ∧ Below W.heap.size W w' := by
  cases hv : addR1 x with
  | true => exact ⟨_, 0, true, .inl ⟨rfl, rfl⟩, fun W => add_yes ep h0 h1 x hv W _ rfl, fun W => refAddQ_yes ep h0 h1 x hv W _ rfl⟩
  | false => exact ⟨_, 1, false, .inr ⟨rfl, rfl⟩, fun W => add_no ep x hs hv W, fun W => refAddQ_no ep x hs hv W⟩
theorem told_both (s : ByteArray) (hs : s.size ≤ maxLen) : ∃ (le er : Int) (ls : List En) (m : Nat), ls.length = m ∧
    (∀ W, Calls Tryz.prog 14 #[.string s] W fun e w' => (∃ a c g, e = .returned (.tuple #[.agg #[.int .i64 le, .slice a m c], .int .i64 er]) ∧ Cel (fun q => W.heap.size ≤ q) w' 2 (.slice a m c) m (rowC enC ls) g) ∧ Below W.heap.size W w') ∧
    ∀ W, Calls Tryz.prog 15 #[.string s] W fun e w' => (∃ a c g, e = .returned (.tuple #[.agg #[.int .i64 le, .slice a m c], .int .i64 er]) ∧ Cel (fun q => W.heap.size ≤ q) w' 2 (.slice a m c) m (rowC enC ls) g) ∧ Below W.heap.size W w' := by
  refine ⟨(toldP s).1.ep, (toldP s).2, (toldP s).1.es, _, rfl, fun W => ?_, fun W => ?_⟩
  · exact (told_val s hs W).mono fun e w' ⟨⟨a, c, g, h1, h2⟩, h3⟩ => ⟨⟨a, c, g, h1, h2⟩, h3⟩
  · exact (refTold_val s hs W).mono fun e w' ⟨⟨a, c, g, h1, h2⟩, h3⟩ => ⟨⟨a, c, g, h1, h2⟩, h3⟩
end Go.Proofs.YtfmhmokbbkliaaaGreat.Jrn

/- Two nodes and their disks side by side: the contracts of tabulariumlaw15.disks, alike; the power goes, a crash, both are opened anew. -/
namespace Go.Proofs.YtfmhmokbbkliaaaGreat.Jrn
open Go.RowKit Go.Proofs.YtfmhmokbbkliaaaGreat Go.Proofs.YtfmhmokbbkliaaaGreat.Wir Go.Proofs.YtfmhmokbbkliaaaGreat.Lgg Go.Proofs.YtfmhmokbbkliaaaGreat.Sep
set_option linter.unusedVariables false

set_option maxRecDepth 100000 in
set_option maxHeartbeats 2000000 in
theorem disks15_val {w0 w : World} {pf : Option Nat} {B : Option Obj} {pd px : Nat} {ds : DS} (h : Half w0 pf B w pd px ds ds) :
    Calls Tryz.prog 31 #[.pointer (some ⟨pd, 0, none⟩), .pointer (some ⟨px, 0, none⟩)] w fun e w' => e = .returned (.bool true) ∧ Below w.heap.size w w' := by
  obtain ⟨L, hL⟩ : ∃ L, (listN ds).length = L := ⟨_, rfl⟩
  obtain ⟨U, hU⟩ : ∃ U, usedN ds = U := ⟨_, rfl⟩
  obtain ⟨N, hN⟩ : ∃ N, (listN ds).map ba = N := ⟨_, rfl⟩
  have hL20 : L ≤ 20 ∧ ∀ s ∈ N, s.size ≤ 30 := by
    rw [← hL, ← hN]
    obtain ⟨O1, O2, h1, _, hf, _⟩ := h.out
    unfold listN
    split
    · simp
    · refine ⟨by rw [List.length_map]; exact hf.most, fun s hs => ?_⟩
      obtain ⟨n, hn, rfl⟩ := List.mem_map.1 hs
      obtain ⟨p, hp, rfl⟩ := List.mem_map.1 hn
      rw [ba_size]; exact (hf.name p hp).2
  have hNL : N.length = L := by rw [← hN, List.length_map]; exact hL
  have CL : Hid (Calls Tryz.prog 73 #[.pointer (some ⟨pd, 0, none⟩)] w fun e w' => ∃ a c b, e = .returned (.slice a L c) ∧ (0 < L → a = some ⟨b, 0, none⟩) ∧ (∀ j (hj : j < N.length), w'.cell? ⟨b, j, none⟩ = some (.string N[j])) ∧ Below w.heap.size w w') := by subst hN; exact d_list h L hL
  have CM : Hid (∀ W, Below w.heap.size w W → Calls Tryz.prog 74 #[.pointer (some ⟨px, 0, none⟩)] W fun e w' => ∃ a c b, e = .returned (.slice a L c) ∧ (0 < L → a = some ⟨b, 0, none⟩) ∧ (∀ j (hj : j < N.length), w'.cell? ⟨b, j, none⟩ = some (.string N[j])) ∧ Below W.heap.size W w') := fun W hb => by subst hN; exact list_ref (h.below hb) L hL
  have CU : Hid (∀ W, Below w.heap.size w W → Calls Tryz.prog 75 #[.pointer (some ⟨pd, 0, none⟩)] W fun e w' => e = .returned (.int .i64 U) ∧ Below W.heap.size W w') := fun W hb => d_used (h.below hb) U hU
  have CX : Hid (∀ W, Below w.heap.size w W → Calls Tryz.prog 76 #[.pointer (some ⟨px, 0, none⟩)] W fun e w' => e = .returned (.int .i64 U) ∧ Below W.heap.size W w') := fun W hb => x_used (h.below hb) U hU
  have CR : Hid (∀ (s : ByteArray) W, s.size ≤ 30 → Below w.heap.size w W → Calls Tryz.prog 77 #[.pointer (some ⟨pd, 0, none⟩), .string s] W fun e w' => e = .returned (.tuple #[.string (rdT ds s.data.toList), .int .i64 (rdE ds s.data.toList)]) ∧ Below W.heap.size W w') := fun s W hs hb => d_readB (h.below hb) s (by unfold maxLen; omega) _ _ rfl rfl
  have CS : Hid (∀ (s : ByteArray) W, Below w.heap.size w W → Calls Tryz.prog 59 #[.pointer (some ⟨px, 0, none⟩), .string s] W fun e w' => e = .returned (.tuple #[.string (rdT ds s.data.toList), .int .i64 (rdE ds s.data.toList)]) ∧ W = w') := fun s W hb => (x_read (h.below hb) s _ _ rfl rfl).mono fun e w' ⟨k1, k2⟩ => ⟨k1, k2.symm⟩
  have HN : Hid (N.length = L ∧ ∀ s ∈ N, s.size ≤ 30) := ⟨hNL, hL20.2⟩
  obtain ⟨hl2, _⟩ := hL20
  clear h hL hU hN hNL
  go_enter Tryz.func31, Tryz.ntmps31
  go_wp2_with fail
  refine CL.out.mono ?_
  rintro e w1 ⟨la, lc, lb, rfl, hla, hlr, b1⟩
  have H1 : Hid ((0 < L → la = some ⟨lb, 0, none⟩) ∧ (∀ j (hj : j < N.length), w1.cell? ⟨lb, j, none⟩ = some (.string N[j])) ∧ Below w.heap.size w w1) := ⟨hla, hlr, b1⟩
  clear hla hlr b1
  go_wp2_with fail
  refine (CM.out _ H1.out.2.2).mono ?_
  rintro e w2 ⟨xa, xc, xb, rfl, hxa, hxr, b2⟩
  have H2 : Hid ((0 < L → la = some ⟨lb, 0, none⟩) ∧ (∀ j (hj : j < N.length), w2.cell? ⟨lb, j, none⟩ = some (.string N[j])) ∧ (0 < L → xa = some ⟨xb, 0, none⟩) ∧ (∀ j (hj : j < N.length), w2.cell? ⟨xb, j, none⟩ = some (.string N[j])) ∧ Below w.heap.size w w2) := ⟨H1.out.1, fun j hj => bel_cell b2 (H1.out.2.1 j hj), hxa, hxr, bel_tr H1.out.2.2 b2⟩
  clear H1 hxa hxr b2
  go_wp2_with (first
    | (go_at_call 75; refine (CU.out _ H2.out.2.2.2.2).mono ?_; rintro e w3 ⟨rfl, b3⟩; have B3 : Hid (Below w2.heap.size w2 w3) := b3; clear b3)
    | (go_at_call 76; refine (CX.out _ (bel_tr H2.out.2.2.2.2 B3.out)).mono ?_; rintro e w4 ⟨rfl, b4⟩; have B4 : Hid (Below w2.heap.size w2 w4) := bel_tr B3.out b4; clear b4))
  have HI : Hid (∀ W, Below w2.heap.size w2 W → (0 < L → la = some ⟨lb, 0, none⟩) ∧ (∀ j (hj : j < N.length), W.cell? ⟨lb, j, none⟩ = some (.string N[j])) ∧ (0 < L → xa = some ⟨xb, 0, none⟩) ∧ (∀ j (hj : j < N.length), W.cell? ⟨xb, j, none⟩ = some (.string N[j])) ∧ Below w.heap.size w W) := fun W hb => ⟨H2.out.1, fun j hj => bel_cell hb (H2.out.2.1 j hj), H2.out.2.2.1, fun j hj => bel_cell hb (H2.out.2.2.2.1 j hj), bel_tr H2.out.2.2.2.2 hb⟩
  clear H2

  go_loopw [7] (fun vi wr => ∃ (k : Nat), k ≤ L ∧ vi = .int .i64 k ∧ Below w2.heap.size w2 wr) (fun vi _ => L - (intOf vi).toNat)
  case atStart => exact ⟨0, by omega, rfl, B4.out⟩
  case round =>
    obtain ⟨k, hk, rfl, hb⟩ := hrel
    obtain ⟨g1, g2, g3, g4, g5⟩ := HI.out wr hb
    by_cases hlt : k < L
    · have hkN : k < N.length := by rw [HN.out.1]; exact hlt
      obtain rfl := g1 (by omega)
      obtain rfl := g3 (by omega)
      have c1 := g2 k hkN
      have c2 := g4 k hkN
      obtain ⟨s, hs⟩ : ∃ s, N[k] = s := ⟨_, rfl⟩
      have hs30 : s.size ≤ 30 := by rw [← hs]; exact HN.out.2 _ (List.getElem_mem hkN)
      rw [hs] at c1 c2
      obtain ⟨t, ht⟩ : ∃ t, rdT ds s.data.toList = t := ⟨_, rfl⟩
      obtain ⟨q, hq⟩ : ∃ q, rdE ds s.data.toList = q := ⟨_, rfl⟩
      have CR2 : Hid (∀ W, Below wr.heap.size wr W → Calls Tryz.prog 77 #[.pointer (some ⟨pd, 0, none⟩), .string s] W fun e w' => e = .returned (.tuple #[.string t, .int .i64 q]) ∧ Below W.heap.size W w') := fun W hW => by rw [← ht, ← hq]; exact CR.out s W hs30 (bel_tr g5 hW)
      have CS2 : Hid (∀ W, Below wr.heap.size wr W → Calls Tryz.prog 59 #[.pointer (some ⟨px, 0, none⟩), .string s] W fun e w' => e = .returned (.tuple #[.string t, .int .i64 q]) ∧ W = w') := fun W hW => by rw [← ht, ← hq]; exact CS.out s W (bel_tr g5 hW)
      have HB : Hid (Below w2.heap.size w2 wr) := hb
      clear g1 g2 g3 g4 g5 hb hs ht hq CR CS CU CX CM CL hkN hs30
      go_wp2_with fail
      refine (CR2.out _ (Below.refl _ _)).mono ?_
      rintro e w5 ⟨rfl, b5⟩
      have x1 := bel_cell b5 c1
      have x2 := bel_cell b5 c2
      have B5 : Hid (Below wr.heap.size wr w5) := b5
      clear b5
      go_wp2_with fail
      refine (CS2.out _ B5.out).mono ?_
      rintro e w6 ⟨rfl, rfl⟩
      go_upto_region 10 with fail
      go_region
      go_wp2
      go_roundw
      case rel => exact ⟨k + 1, by omega, by go_num, (by first | exact bel_tr HB.out B5.out | exact bel_tr HB.out (bel_tr B5.out (below_drewN (Below.refl _ _) _)))⟩
      case measure => simp [intOf]; omega
    · obtain rfl : k = L := by omega
      go_wp2
      go_ret
      exact ⟨rfl, g5⟩

theorem half_of {w w1 : World} {O : Nat → Prop} {pd px : Nat} {ds : DS} {M : List Th} (h : Hz w O (dsk pd ds :: xdk px ds :: M) w1) : Half { w1 with heap := #[] } none none w1 pd px ds ds := by
  obtain ⟨⟨O1, O2, k1, ⟨O3, O4, ⟨⟨a, c, g, j1⟩, jf⟩, j2, j3, j4, j5, j6⟩, k3, k4, k5, k6⟩, h2⟩ := h
  exact ⟨O1, O3, k1, ⟨a, c, g, j1⟩, jf, fun k hk e => k3 k hk (j4 k e), fun k hk => Nat.zero_le _, fun k hk => Nat.zero_le _, ⟨rfl, rfl, rfl, Nat.zero_le _, fun k hk => absurd hk (Nat.not_lt_zero _)⟩, fun k e => by cases e⟩
/-- A node, the reference's: their disks. -/
theorem two_disks {w w1 : World} {O : Nat → Prop} {jp pd yp px : Nat} {ds : DS} {j r : Nd} {M : List Th} (h : Hz w O (jr jp pd ds j :: rj yp px ds r :: M) w1) : Hz w O (dsk pd ds :: xdk px ds :: M) w1 := by
  obtain ⟨a, c, g, h⟩ := jr_open h
  have h1 : Hz w O (dsk pd ds :: rj yp px ds r :: M) w1 := (h.erase 2).erase 0
  obtain ⟨a2, c2, g2, h3⟩ := rj_open h1.swap
  have h4 : Hz w O (xdk px ds :: dsk pd ds :: M) w1 := (h3.erase 2).erase 0
  exact h4.swap
theorem disks_hz {w w1 : World} {O : Nat → Prop} {pd px : Nat} {ds : DS} {M : List Th} (h : Hz w O (dsk pd ds :: xdk px ds :: M) w1) :
    Calls Tryz.prog 31 #[.pointer (some ⟨pd, 0, none⟩), .pointer (some ⟨px, 0, none⟩)] w1 fun e w' => e = .returned (.bool true) ∧ Below w1.heap.size w1 w' := disks15_val (half_of h)

theorem rj_get {w w1 : World} {O : Nat → Prop} {yp px : Nat} {ds : DS} {r : Nd} {L : List Th} (h : Hz w O L w1) (i : Nat) (hi : L[i]? = some (rj yp px ds r)) : ∃ (O1 : Nat → Prop) (a : Option Addr) (c : Nat) (g : Option Nat), w1.cell? ⟨yp, 1, none⟩ = some (.int .i64 r.p) ∧ w1.cell? ⟨yp, 2, none⟩ = some (.int .i64 r.l.ep) ∧ w1.cell? ⟨yp, 3, none⟩ = some (.slice a r.l.es.length c) ∧ w1.cell? ⟨yp, 4, none⟩ = some (.bool r.gone) ∧ Cel O1 w1 2 (.slice a r.l.es.length c) r.l.es.length (rowC enC r.l.es) g := by
  obtain ⟨O1, ⟨a, c, g⟩, hS⟩ := h.get i hi
  have hz : Hz w1 O1 (rjL yp px ds r a c g ++ []) w1 := Hz.start (by rw [List.append_nil]; exact hS)
  obtain ⟨x0, x1, x2, x3, x4, fx⟩ := rj_cells hz
  obtain ⟨O3, k3⟩ := hz.get 2 rfl
  exact ⟨O3, a, c, g, x1, x2, x3, x4, k3.1⟩

set_option maxRecDepth 100000 in
set_option maxHeartbeats 4000000 in
theorem alike_hz {w w1 : World} {O : Nat → Prop} {jp pd yp px : Nat} {ds : DS} {j r : Nd} {L : List Th} (h : Hz w O L w1) (i : Nat) (hi : L[i]? = some (jr jp pd ds j)) (i2 : Nat) (hi2 : L[i2]? = some (rj yp px ds r)) (hj : NdOk j) (ht : Twin j r) :
    Calls Tryz.prog 32 #[.pointer (some ⟨jp, 0, none⟩), .pointer (some ⟨yp, 0, none⟩)] w1 fun e w' => e = .returned (.bool true) ∧ Below w1.heap.size w1 w' := by
  have HZ : Hid (∀ W, Below w1.heap.size w1 W → Hz w O L W) := fun W hb => h.below hb
  obtain ⟨O9, a9, c9, g9, r1, r2, r3, r4, r5⟩ := rj_get h i2 hi2
  have R4 : Hid (∀ W, Below w1.heap.size w1 W → W.cell? ⟨yp, 4, none⟩ = some (.bool r.gone)) := fun W hb => bel_cell hb r4
  have CLg : Hid (Calls Tryz.prog 37 #[.pointer (some ⟨jp, 0, none⟩)] w1 fun e w' => LogC w1.heap.size j.l e w' ∧ Below w1.heap.size w1 w') := log_hz h i hi hj
  have CDe : Hid (∀ W, Below w1.heap.size w1 W → Calls Tryz.prog 38 #[.pointer (some ⟨jp, 0, none⟩)] W fun e w' => e = .returned (.bool j.gone) ∧ Below W.heap.size W w') := fun W hb => (dead_hz (HZ.out W hb) i hi).mono fun e w' ⟨k1, k2⟩ => ⟨k1, by rw [k2]; exact Below.refl _ _⟩
  have CPm : Hid (∀ W, Below w1.heap.size w1 W → Calls Tryz.prog 39 #[.pointer (some ⟨jp, 0, none⟩)] W fun e w' => e = .returned (.int .i64 j.p) ∧ Below W.heap.size W w') := fun W hb => (promised_hz (HZ.out W hb) i hi).mono fun e w' ⟨k1, k2⟩ => ⟨k1, by rw [k2]; exact Below.refl _ _⟩
  obtain ⟨P, hP⟩ : ∃ P, j.p = P := ⟨_, rfl⟩
  obtain ⟨⟨le, es⟩, hl⟩ : ∃ l, j.l = l := ⟨_, rfl⟩
  obtain ⟨m, hm⟩ : ∃ m, es.length = m := ⟨_, rfl⟩
  have HM : Hid (es.length = m) := hm
  rw [hP] at CPm
  rw [hl] at CLg
  cases hg : j.gone with
  | true =>
    have hd := hj.dead hg
    rw [hg] at CDe
    have hrg : r.gone = true := by rw [ht.gone]; exact hg
    rw [hrg] at R4
    have hl0 : le = 0 ∧ es = [] := by rw [hd] at hl; cases hl; exact ⟨rfl, rfl⟩
    have hP0 : P = 0 := by rw [hd] at hP; exact hP.symm
    obtain ⟨rfl, rfl⟩ := hl0
    subst hP0
    obtain rfl : m = 0 := hm.symm
    clear hj ht hP hl hg hd hrg r1 r2 r3 r4 r5 hm
    have hst2 : ∀ (w : World) (a : Addr) (x : Option Addr) (n c : Nat) (m : Mode), (store a (.slice x n c) m).run Tryz.prog w = stored Tryz.prog w a (.slice x n c) m := fun w a x n c m => run_store (P := Tryz.prog) w a _ m rfl
    go_enter Tryz.func32, Tryz.ntmps32
    go_upto_region 2 with (go_at_call 37; refine CLg.out.mono ?_; rintro e w2 ⟨⟨a, c, g, hx, hC⟩, b⟩; simp only [HM.out] at hx hC; subst hx; have B2 : Hid (Below w1.heap.size w1 w2) := b; clear b hC)
    have B3 : Hid (Below w1.heap.size w1 (w2.alloc (.cells #[.int .i64 0, .slice a 0 c] 34))) := bel_tr B2.out (bel_al _ _)
    have y0 : (w2.alloc (.cells #[.int .i64 0, .slice a 0 c] 34)).cell? ⟨w2.heap.size, 0, none⟩ = some (.int .i64 0) := World.cell?_alloc_new w2 _ _ 0
    have y1 : (w2.alloc (.cells #[.int .i64 0, .slice a 0 c] 34)).cell? ⟨w2.heap.size, 1, none⟩ = some (.slice a 0 c) := World.cell?_alloc_new w2 _ _ 1
    generalize w2.alloc (.cells #[.int .i64 0, .slice a 0 c] 34) = w3 at *
    generalize w2.heap.size = LB at *
    have r4 := R4.out w3 B3.out
    have CS : Hid (Calls Tryz.prog 16 #[.agg #[.int .i64 0, .slice a 0 c], .agg #[.int .i64 0, .slice none 0 0]] w3 fun e w' => e = .returned (.bool true) ∧ Below w3.heap.size w3 w') := refSame_val (xs := []) (ys := []) (Lie.nil _ (fun _ => True) _ _) (Lie.nil _ (fun _ => True) _ _) 0 0 c 0 rfl rfl 0 0 true ⟨fun _ => rfl, fun _ => rfl⟩
    go_wp2_with (first
      | (go_at_call 16; refine CS.out.mono ?_; rintro e w4 ⟨rfl, b⟩; have B4 : Hid (Below w1.heap.size w1 w4) := bel_tr B3.out b; clear b y0 y1 r4)
      | (go_at_call 38; refine (CDe.out _ B4.out).mono ?_; rintro e w5 ⟨rfl, b⟩; have B5 : Hid (Below w1.heap.size w1 w5) := bel_tr B4.out b; clear b)
      | (go_at_call 39; refine (CPm.out _ B5.out).mono ?_; rintro e w6 ⟨rfl, b⟩; have B6 : Hid (Below w1.heap.size w1 w6) := bel_tr B5.out b; clear b))
    go_ret
    exact ⟨rfl, B6.out⟩
  | false =>
    obtain rfl := ht.same hg
    rw [hg] at CDe R4
    rw [hl] at r2 r3 r5
    rw [hP] at r1
    simp only [hm] at r2 r3 r5
    have RC : Hid (∀ W, Below w1.heap.size w1 W → W.cell? ⟨yp, 1, none⟩ = some (.int .i64 P) ∧ W.cell? ⟨yp, 2, none⟩ = some (.int .i64 le) ∧ W.cell? ⟨yp, 3, none⟩ = some (.slice a9 m c9) ∧ Lie enC O9 W a9 es) := fun W hb => ⟨bel_cell hb r1, bel_cell hb r2, bel_cell hb r3, (lie_cel r5 hm).below hb⟩
    clear hj ht hP hl hg r1 r2 r3 r4 r5 hm
    have hst2 : ∀ (w : World) (a : Addr) (x : Option Addr) (n c : Nat) (m : Mode), (store a (.slice x n c) m).run Tryz.prog w = stored Tryz.prog w a (.slice x n c) m := fun w a x n c m => run_store (P := Tryz.prog) w a _ m rfl
    go_enter Tryz.func32, Tryz.ntmps32
    go_upto_region 2 with (go_at_call 37; refine CLg.out.mono ?_; rintro e w2 ⟨⟨a, c, g, hx, hC⟩, b⟩; simp only [HM.out] at hx hC; subst hx; have B2 : Hid (Below w1.heap.size w1 w2) := b; have HC2 : Hid (Cel (fun q => w1.heap.size ≤ q) w2 2 (.slice a m c) m (rowC enC es) g) := hC; clear b hC)
    have B3 : Hid (Below w1.heap.size w1 (w2.alloc (.cells #[.int .i64 le, .slice a m c] 34))) := bel_tr B2.out (bel_al _ _)
    have HL3 : Hid (Lie enC (fun q => w1.heap.size ≤ q) (w2.alloc (.cells #[.int .i64 le, .slice a m c] 34)) a es) := lie_cel (HC2.out.below (bel_al _ _)) HM.out
    have y0 : (w2.alloc (.cells #[.int .i64 le, .slice a m c] 34)).cell? ⟨w2.heap.size, 0, none⟩ = some (.int .i64 le) := World.cell?_alloc_new w2 _ _ 0
    have y1 : (w2.alloc (.cells #[.int .i64 le, .slice a m c] 34)).cell? ⟨w2.heap.size, 1, none⟩ = some (.slice a m c) := World.cell?_alloc_new w2 _ _ 1
    clear HC2
    generalize w2.alloc (.cells #[.int .i64 le, .slice a m c] 34) = w3 at *
    generalize w2.heap.size = LB at *
    have r4 := R4.out w3 B3.out
    go_upto_region 5 with fail
    obtain ⟨q1, q2, q3, q4⟩ := RC.out w3 B3.out
    have v0 := fun dd os => cell_regrown y0 dd os
    have v1 := fun dd os => cell_regrown y1 dd os
    have v2 := fun dd os => cell_regrown q2 dd os
    have v3 := fun dd os => cell_regrown q3 dd os
    have CS : Hid (∀ W, Below w3.heap.size w3 W → Calls Tryz.prog 16 #[.agg #[.int .i64 le, .slice a m c], .agg #[.int .i64 le, .slice a9 m c9]] W fun e w' => e = .returned (.bool true) ∧ Below W.heap.size W w') := fun W hb => refSame_val (HL3.out.below hb) (q4.below hb) m m c c9 HM.out HM.out le le true ⟨fun _ => rfl, fun _ => rfl⟩
    clear q4
    refine wp_region_quiet_below (by kernel_rfl) (by kernel_rfl) ?_
    repeat (first | go_big_quiet_step (first | (go_at_call 16; exact Calls.regrown_of (CS.out _ (below_regrown _ _ _)))) | quiet_step (first | (go_at_call 16; exact Calls.regrown_of (CS.out _ (below_regrown _ _ _)))))
    refine wpQuiet_nil ?_
    intro _ hw'
    obtain ⟨⟨dq, osq⟩, hw''⟩ := hw'
    subst hw''
    have B4 : Hid (Below w1.heap.size w1 (Sort.grow (redrawn w3 dq) osq)) := bel_tr B3.out (below_regrown w3 dq osq)
    clear v0 v1 v2 v3 CS y0 y1 q1 q2 q3 r4
    generalize Sort.grow (redrawn w3 dq) osq = w4 at *
    obtain ⟨q1, -, -, -⟩ := RC.out w4 B4.out
    have v1 := fun dd os => cell_regrown q1 dd os
    have CD2 : Hid (∀ W, Below w4.heap.size w4 W → Calls Tryz.prog 38 #[.pointer (some ⟨jp, 0, none⟩)] W fun e w' => e = .returned (.bool false) ∧ Below W.heap.size W w') := fun W hb => CDe.out W (bel_tr B4.out hb)
    have CP2 : Hid (∀ W, Below w4.heap.size w4 W → Calls Tryz.prog 39 #[.pointer (some ⟨jp, 0, none⟩)] W fun e w' => e = .returned (.int .i64 P) ∧ Below W.heap.size W w') := fun W hb => CPm.out W (bel_tr B4.out hb)
    go_wp2
    refine wp_region_quiet_below (by kernel_rfl) (by kernel_rfl) ?_
    repeat (first | go_big_quiet_step (first | (go_at_call 38; exact Calls.regrown_of (CD2.out _ (below_regrown _ _ _))) | (go_at_call 39; exact Calls.regrown_of (CP2.out _ (below_regrown _ _ _)))) | quiet_step (first | (go_at_call 38; exact Calls.regrown_of (CD2.out _ (below_regrown _ _ _))) | (go_at_call 39; exact Calls.regrown_of (CP2.out _ (below_regrown _ _ _)))))
    refine wpQuiet_nil ?_
    intro _ hw'
    obtain ⟨⟨dq2, osq2⟩, hw''⟩ := hw'
    subst hw''
    have B5 : Hid (Below w1.heap.size w1 (Sort.grow (redrawn w4 dq2) osq2)) := bel_tr B4.out (below_regrown w4 dq2 osq2)
    clear v1 CD2 CP2 q1
    generalize Sort.grow (redrawn w4 dq2) osq2 = w5 at *
    go_wp2
    go_ret
    exact ⟨rfl, B5.out⟩

/-! ### the reference's disk -/
theorem fit_get {w w1 : World} {O : Nat → Prop} {pd : Nat} {ds : DS} {L : List Th} (h : Hz w O L w1) (i : Nat) (hi : L[i]? = some (dsk pd ds)) : Fit ds := by
  obtain ⟨O1, k1⟩ := h.get i hi
  exact fit_of k1
section
variable {w w1 : World} {O : Nat → Prop} {M : List Th} {yp px : Nat} {ds ds' : DS} {r : Nd}
theorem rfuse_hz (h : Hz w O (rj yp px ds r :: M) w1) (n f : Int) (hn : -9223372036854775808 ≤ n ∧ n < 9223372036854775808) (hf : max n 0 = f) (hd : ({ ds with fuse := f } : DS) = ds') (hft : Fit ds') :
    Calls Tryz.prog 25 #[.pointer (some ⟨px, 0, none⟩), .int .i64 n] w1 fun e w' => e = .returned (.tuple #[]) ∧ Hz w O (rj yp px ds' r :: M) w' := by
  obtain ⟨a, c, g, h⟩ := rj_open h
  refine (h.act (T := xdk px ds) (T' := xdk px ds') 1 rfl (Q := fun e _ => e = .returned (.tuple #[])) ?_).mono fun e w' ⟨h1, h2⟩ => ⟨h1, rj_fold (a := a) (c := c) (g := g) h2⟩
  rintro O1 ⟨⟨a1, c1, g1, k1⟩, k2⟩
  refine (refFuse_val k1 n f hn hf).mono fun e w' ⟨e1, e2, e3⟩ => ⟨e1, ⟨⟨a1, c1, g1, ?_⟩, hft⟩, e3⟩
  rw [hd] at e2
  exact rat_wide e2 (fun k hk => .inl hk) (grow_lt k1.lt e3.size)
theorem ropen_hz (h : Hz w O (xdk px ds :: M) w1) :
    Calls Tryz.prog 22 #[.pointer (some ⟨px, 0, none⟩)] w1 fun e w' => ((openQ ds).1 = 0 → ∃ yp, e = .returned (.tuple #[.pointer (some ⟨yp, 0, none⟩), .int .i64 0]) ∧ Hz w O (rj yp px (openQ ds).2.1 (openQ ds).2.2 :: M) w') ∧ ((openQ ds).1 ≠ 0 → e = .returned (.tuple #[.pointer none, .int .i64 (openQ ds).1]) ∧ Hz w O (xdk px (openQ ds).2.1 :: M) w') := by
  obtain ⟨O1, k1, k2, k3⟩ := h.out 0 rfl
  refine (refOpen15_val k1).mono fun e w' hR => ⟨fun h0 => ?_, fun h0 => ?_⟩
  · obtain ⟨yp, h1, h2⟩ := hR.yes h0
    exact ⟨yp, h1, k3 (rj yp px (openQ ds).2.1 (openQ ds).2.2) w' h2.done.1 h2.done.2⟩
  · obtain ⟨h1, h2⟩ := hR.no h0
    exact ⟨h1, k3 (xdk px (openQ ds).2.1) w' h2.done.1 h2.done.2⟩
theorem oopen_hz {pd : Nat} (h : Hz w O (dsk pd ds :: M) w1) :
    Calls Tryz.prog 21 #[.pointer (some ⟨pd, 0, none⟩)] w1 fun e w' => ((openQ ds).1 = 0 → ∃ jp, e = .returned (.tuple #[.pointer (some ⟨jp, 0, none⟩), .int .i64 0]) ∧ Hz w O (jr jp pd (openQ ds).2.1 (openQ ds).2.2 :: M) w') ∧ ((openQ ds).1 ≠ 0 → e = .returned (.tuple #[.pointer none, .int .i64 (openQ ds).1]) ∧ Hz w O (dsk pd (openQ ds).2.1 :: M) w') := by
  obtain ⟨O1, k1, k2, k3⟩ := h.out 0 rfl
  refine (open_val k1).mono fun e w' hR => ⟨fun h0 => ?_, fun h0 => ?_⟩
  · obtain ⟨jp, h1, h2⟩ := hR.yes h0
    exact ⟨jp, h1, k3 (jr jp pd (openQ ds).2.1 (openQ ds).2.2) w' h2.done.1 h2.done.2⟩
  · obtain ⟨h1, h2⟩ := hR.no h0
    exact ⟨h1, k3 (dsk pd (openQ ds).2.1) w' h2.done.1 h2.done.2⟩
end
theorem rcrash_hz {w w1 : World} {M : List Th} {yp px : Nat} {ds ds' : DS} {r : Nd} (h : Hz w (fun _ => False) (rj yp px ds r :: M) w1) (ka : Option Addr) (kb koff kcap m : Nat) (ks : List Int) (hm : ks.length = m) (hmx : m ≤ maxLen) (hI : Ints w .i64 ka kb koff ks) (hks : ∀ k ∈ ks, -9223372036854775808 ≤ k ∧ k ≤ 9223372036854775807) (hd : (⟨ds.room, 0, false, crashL ks ds.S⟩ : DS) = ds') (hft : Fit ds') :
    Calls Tryz.prog 27 #[.pointer (some ⟨px, 0, none⟩), .slice ka m kcap] w1 fun e w' => e = .returned (.tuple #[]) ∧ Hz w (fun _ => False) (xdk px ds' :: M) w' := by
  obtain ⟨a, c, g, h⟩ := rj_open h
  obtain ⟨O1, ⟨⟨a1, c1, g1, k1⟩, kf⟩, k2, k3⟩ := h.stars.out (T := xdk px ds) 1 rfl
  obtain ⟨room, fuse, down, S⟩ := ds
  simp only at hd
  refine (refCrash_val k1 kf ka kb koff kcap m ks hm hmx (hI.below (hz_bel h)) hks).mono fun e w' ⟨e1, ⟨a2, c2, g2, e2⟩, e3⟩ => ⟨e1, ?_⟩
  rw [hd] at e2
  have h4 := h.of (k3 (xdk px ds') w' ⟨⟨a2, c2, g2, e2⟩, hft⟩ e3)
  exact (h4.erase 2).erase 0
theorem rhand_hz {w w1 : World} {O : Nat → Prop} {M : List Th} {yp px : Nat} {ds : DS} {j r : Nd} (h : Hz w O (rj yp px ds r :: M) w1) (hj : NdOk j) (ht : Twin j r) (s : ByteArray) (hs : s.size ≤ maxLen) (T : ByteArray) (hT : (handQ ds j s).t = T) (ds' : DS) (hd : (handQ ds j s).ds = ds') :
    Calls Tryz.prog 30 #[.pointer (some ⟨yp, 0, none⟩), .string s] w1 fun e w' => e = .returned (.string T) ∧ Hz w O (rj yp px ds' (refHandQ ds r s).j :: M) w' := by
  obtain ⟨k1, k2, k3⟩ := hand_like (ds := ds) hj ht s
  have hro : r.gone = false → NdOk r := fun e => by
    rw [ht.same (by rw [← ht.gone]; exact e)]; exact hj
  refine (h.act 0 rfl (refHandle_acts hro s hs)).mono fun e w' ⟨h1, h2⟩ => ⟨?_, ?_⟩
  · rw [h1, k1, hT]
  · rw [k2, hd] at h2
    exact h2
theorem twin_open {nd : Nd} (h : NdOk nd) : Twin nd nd := ⟨rfl, fun _ => rfl, h.log⟩
end Go.Proofs.YtfmhmokbbkliaaaGreat.Jrn

/- What JournalCopies asks: a promise on a node whose disk works; its log, accepted on an empty disk. -/
namespace Go.Proofs.YtfmhmokbbkliaaaGreat.Jrn
open Go.RowKit Go.Proofs.YtfmhmokbbkliaaaGreat Go.Proofs.YtfmhmokbbkliaaaGreat.Wir Go.Proofs.YtfmhmokbbkliaaaGreat.Lgg Go.Proofs.YtfmhmokbbkliaaaGreat.Sep
set_option linter.unusedVariables false

abbrev K0 : DS := ⟨400000, 0, false, []⟩
theorem dv_none : Dv 0 K0 nd0 := ⟨run_none _, fil_none 0, .inl ⟨rfl, rfl⟩, nd0_ok, rfl⟩
theorem wid_0 {ds : DS} (h : ds.fuse = 0) : Wid 0 ds := ⟨by omega, fun e => absurd h e⟩
/-- Without a fuse. -/
theorem dv_hand {ds : DS} {j : Nd} (h : Dv 0 ds j) (hf : ds.fuse = 0) (s : ByteArray) : Dv 0 (handQ ds j s).ds (handQ ds j s).j ∧ (handQ ds j s).ds.fuse = 0 := by
  rcases hand_res (wid_0 hf) h s with ⟨k1, k2⟩ | ⟨k1, _⟩
  · exact ⟨k1, k2 hf⟩
  · exact absurd hf k1
theorem prom_on {ds : DS} {j : Nd} (h : Dv 0 ds j) (hf : ds.fuse = 0) {ep : Int} (he : epR ep = true) (hlt : ¬ ep ≤ j.p) : (promQ ds j ep).e = 0 := by
  have ht := enc_top h.ok.log
  have hll := h.lg.len h.ok.log
  obtain ⟨e, ds', hq, hw⟩ := sto_pr h.run h.fil he (by omega)
  rcases hw with ⟨rfl, k1, _⟩ | ⟨rfl, k1, _⟩
  · unfold promQ; rw [if_neg hlt, hq]; rfl
  · exact absurd hf k1.f0
theorem fresh_on {ds : DS} {j : Nd} (h : Dv 0 ds j) (hf : ds.fuse = 0) {ep : Int} {es : List En} (he : RtL ⟨ep, es⟩) : (fresh ds j ep es).e = 0 ∧ (fresh ds j ep es).j = ⟨j.p, ⟨ep, es⟩, j.gone⟩ := by
  have ht := enc_top h.ok.log
  have ht2 := enc_top he
  have hll := h.lg.len h.ok.log
  obtain ⟨e, ds', hq, hw⟩ := sto_lg h.run h.fil he (by omega) (fun e => absurd hf e)
  rcases hw with ⟨rfl, k1, _⟩ | ⟨rfl, k1, _⟩
  · unfold fresh; rw [hq]; exact ⟨rfl, rfl⟩
  · exact absurd hf k1.f0
/-- A promise that is refused. -/
theorem copy_no {ds : DS} {j : Nd} (h : Dv 0 ds j) (hf : ds.fuse = 0) {ep : Int} (h0 : -9223372036854775808 ≤ ep) (h1 : ep ≤ 9223372036854775807) (hq : handE ds j (joinT [pT, numT ep]) ≠ 0) : ep ≤ (handQ ds j (joinT [pT, numT ep])).j.p ∨ 9007199254740991 < ep := by
  have hr := read_prom ep h0 h1
  have hg : ¬ j.gone = true := by rw [h.alive]; simp
  by_cases he : epR ep = true
  · rw [if_pos he] at hr
    obtain ⟨a, b, c⟩ := hand_of (ds := ds) h.alive hr
    rw [c]
    rw [a] at hq
    change (promQ ds j ep).e ≠ 0 at hq
    show ep ≤ (promQ ds j ep).j.p ∨ _
    by_cases hle : ep ≤ j.p
    · unfold promQ; rw [if_pos hle]; exact .inl hle
    · exact absurd (prom_on h hf he hle) hq
  · rw [if_neg he] at hr
    have e : (handQ ds j (joinT [pT, numT ep])).j = j := by unfold handQ; rw [if_neg hg, hr]
    rw [e]
    have hp := ep_in h.ok.p
    rw [epR_iff] at he
    unfold maxN at he
    omega
/-- A promise that is made: what is told, what it asks of another one. -/
theorem copy_yes {ds : DS} {j : Nd} (h : Dv 0 ds j) {ep : Int} (h0 : -9223372036854775808 ≤ ep) (h1 : ep ≤ 9223372036854775807) (hq : handE ds j (joinT [pT, numT ep]) = 0) :
    toldP (handQ ds j (joinT [pT, numT ep])).t = (j.l, 0) ∧ (handQ ds j (joinT [pT, numT ep])).j = ⟨ep, j.l, false⟩ ∧ RtL ⟨ep, j.l.es⟩ ∧ handE K0 nd0 (joinT (accTs ep j.l.es)) = 0 ∧ (handQ K0 nd0 (joinT (accTs ep j.l.es))).j = ⟨ep, ⟨ep, j.l.es⟩, false⟩ := by
  obtain ⟨he, hr, _, _, hj⟩ := hand_prom h0 h1 hq
  have hT := hand_log h.ok hr hq
  rw [hj] at hT
  have hrt : RtL ⟨ep, j.l.es⟩ := ⟨epR_ok he, h.ok.log.2⟩
  refine ⟨hT, hj, hrt, ?_⟩
  have hra := read_acc ep j.l.es hrt
  rw [if_pos he] at hra
  obtain ⟨a, b, c⟩ := hand_of (ds := K0) (j := nd0) rfl hra
  rw [a, c]
  have hep := (epR_iff ep).1 he
  have hp0 : (promQ K0 nd0 ep).e = 0 := prom_on dv_none rfl he (by show ¬ ep ≤ 0; omega)
  have hon := promQ_on (ds := K0) (j := nd0) rfl hp0
  have e : doQ K0 nd0 (.acc ep j.l.es) = fresh (promQ K0 nd0 ep).ds (promQ K0 nd0 ep).j ep j.l.es := by
    show accQ K0 nd0 ep j.l.es = _
    unfold accQ
    rw [if_neg (by show ¬ ep < 0; omega), if_neg (by show ¬ ep = 0; omega), if_pos (by show 0 < ep; omega), if_pos hp0]
  rw [e]
  rcases prom_res (wid_0 rfl) dv_none he with ⟨k1, k2⟩ | ⟨k1, _⟩
  · obtain ⟨m1, m2⟩ := fresh_on k1 (k2 rfl) hrt
    rw [m1, m2, hon]
    exact ⟨rfl, rfl⟩
  · exact absurd rfl k1

theorem hand_hzT {w w1 : World} {O : Nat → Prop} {L : List Th} {jp pd : Nat} {ds ds' : DS} {j j' : Nd} (h : Hz w O L w1) (i : Nat) (hi : L[i]? = some (jr jp pd ds j)) (hj : NdOk j) (s : ByteArray) (hs : s.size ≤ maxLen) (T : ByteArray) (hT : (handQ ds j s).t = T) (hj' : (handQ ds j s).j = j') (hd : (handQ ds j s).ds = ds') :
    Calls Tryz.prog 28 #[.pointer (some ⟨jp, 0, none⟩), .string s] w1 fun e w' => e = .returned (.string T) ∧ Hz w O (L.set i (jr jp pd ds' j')) w' := by
  refine (h.act i hi (handle_acts hj s hs)).mono fun e w' ⟨h1, h2⟩ => ?_
  rw [hj', hd] at h2
  rw [hT] at h1
  exact ⟨h1, h2⟩
end Go.Proofs.YtfmhmokbbkliaaaGreat.Jrn

/- What the walks of JournalPlays, JournalForged need. -/
namespace Go.Proofs.YtfmhmokbbkliaaaGreat.Jrn
open Go.RowKit Go.Proofs.YtfmhmokbbkliaaaGreat Go.Proofs.YtfmhmokbbkliaaaGreat.Wir Go.Proofs.YtfmhmokbbkliaaaGreat.Lgg Go.Proofs.YtfmhmokbbkliaaaGreat.Sep
set_option linter.unusedVariables false

section
variable {w w1 : World} {O : Nat → Prop} {M L : List Th} {jp pd yp px : Nat} {ds ds' : DS} {j r : Nd}
theorem fit_jr (h : Hz w O (jr jp pd ds j :: M) w1) : Fit ds := by
  obtain ⟨a, c, g, h⟩ := jr_open h
  exact fit_get (pd := pd) h 1 rfl
theorem rnew_hz (h : Hz w O L w1) (room r : Int) (hr : -9223372036854775808 ≤ room ∧ room < 9223372036854775808) (hm : max room 0 = r) (hf : Fit ⟨r, 0, false, []⟩) :
    Calls Tryz.prog 20 #[.int .i64 room] w1 fun e w' => ∃ px, e = .returned (.pointer (some ⟨px, 0, none⟩)) ∧ Hz w O (xdk px ⟨r, 0, false, []⟩ :: L) w' :=
  (refNew_val room r w1 hr hm).mono fun e w' ⟨px, h1, h2, h3⟩ => ⟨px, h1, h.put h3 ⟨⟨none, 0, none, h2⟩, hf⟩⟩
theorem ropen_yes (h : Hz w O (xdk px ds :: M) w1) (nd : Nd) (hq : openQ ds = (0, ds', nd)) :
    Calls Tryz.prog 22 #[.pointer (some ⟨px, 0, none⟩)] w1 fun e w' => ∃ yp, e = .returned (.tuple #[.pointer (some ⟨yp, 0, none⟩), .int .i64 0]) ∧ Hz w O (rj yp px ds' nd :: M) w' :=
  (ropen_hz h).mono fun e w' ⟨h1, _⟩ => by rw [hq] at h1; exact h1 rfl
theorem ropen_no (h : Hz w O (xdk px ds :: M) w1) (nd : Nd) (er : Int) (h0 : er ≠ 0) (hq : openQ ds = (er, ds', nd)) :
    Calls Tryz.prog 22 #[.pointer (some ⟨px, 0, none⟩)] w1 fun e w' => e = .returned (.tuple #[.pointer none, .int .i64 er]) ∧ Hz w O (xdk px ds' :: M) w' :=
  (ropen_hz h).mono fun e w' ⟨_, h1⟩ => by rw [hq] at h1; exact h1 h0
theorem oopen_no (h : Hz w O (dsk pd ds :: M) w1) (nd : Nd) (er : Int) (h0 : er ≠ 0) (hq : openQ ds = (er, ds', nd)) :
    Calls Tryz.prog 21 #[.pointer (some ⟨pd, 0, none⟩)] w1 fun e w' => e = .returned (.tuple #[.pointer none, .int .i64 er]) ∧ Hz w O (dsk pd ds' :: M) w' :=
  (oopen_hz h).mono fun e w' ⟨_, h1⟩ => by rw [hq] at h1; exact h1 h0
theorem rappend_acts {w : World} (s d : ByteArray) (hs : s.size ≤ maxLen) (hd : d.size ≤ 140737488355328) {px : Nat} {ds ds' : DS} (q : Int) (hq : begE ds (refA ds s.data.toList d.data.toList) = q) (hds : doD ds (refA ds s.data.toList d.data.toList) (fapp s.data.toList d.data.toList) = ds') :
    Acts Tryz.prog 34 #[.pointer (some ⟨px, 0, none⟩), .string s, .string d] (xdk px ds) w (fun e _ => e = .returned (.int .i64 q)) (xdk px ds') := xdk_acts fun w0 K h => xk_append h s d hs hd q hq hds
end
end Go.Proofs.YtfmhmokbbkliaaaGreat.Jrn
