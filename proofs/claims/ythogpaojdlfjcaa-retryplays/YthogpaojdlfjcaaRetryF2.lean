/- The contract of retry.Get. -/
import Derived.Test.YthogpaojdlfjcaaRetryF1
import Derived.Test.YthogpaojdlfjcaaEditF4
namespace Go.Proofs.Ythogpaojdlfjcaa.Rty
open Go.RowKit Go.Proofs.Ythogpaojdlfjcaa Go.Proofs.Ythogpaojdlfjcaa.Edi
open Go.WideShapes (bytes_inj)

theorem zeroKept (w : World) : (zeroValue 63).run Try.prog w = .ok (mkV zeroK) w := by kernel_rfl

theorem same_eq (p q : ByteArray) : (p.toList == q.toList) = decide (p = q) := by
  rw [Lib.toList_data, Lib.toList_data]
  by_cases h : p = q
  · subst h; simp
  · rw [decide_eq_false h, beq_eq_false_iff_ne]
    intro e
    exact h (bytes_inj e)

/-- What Encode answers, whatever the edit is. -/
theorem enc_any (e : Ed) : ∃ (E : ByteArray) (x : Int), (∀ W a m q, Nm W a m e.ls → Calls Try.prog 15 #[edV e a m q] W fun y w' => y = .returned (.tuple #[.string E, .int .i64 x]) ∧ Below W.heap.size W w') ∧ (x = 0 ∧ Rt e ∧ encS e = E ∨ x = 1 ∧ ¬ Rt e) := by
  by_cases h : Rt e
  · exact ⟨encS e, 0, fun W a m q hn => encode_yes hn h _ rfl, .inl ⟨rfl, h, rfl⟩⟩
  · exact ⟨⟨#[]⟩, 1, fun W a m q hn => encode_no hn h, .inr ⟨rfl, h⟩⟩

open Classical in
/-- What is answered, and the error. -/
noncomputable def getO (S : List Ent) (c k : Int) (e : Ed) : Option Ans × Int := match look S c k with
  | none => (none, 0)
  | some x => if x.ed = e then (some x.x, 0) else (none, 14)

structure GetR (base : Nat) (o : Option Ans) (err : Int) (e : Ending) (w' : World) : Prop where
  ex : ∃ s g1 g2, e = .returned (.tuple #[anV (o.getD zeroA) s, .bool o.isSome, .int .i64 err]) ∧ AnOwn base w' (o.getD zeroA) s g1 g2

theorem anOwn_zero (base : Nat) (w : World) : AnOwn base w zeroA ⟨none, 0, none, 0⟩ none none := ⟨.nil rfl rfl rfl, .nil rfl rfl rfl, by simp [zeroA], by simp [zeroA]⟩

set_option maxRecDepth 100000 in
set_option maxHeartbeats 4000000 in
theorem get_none {O : Nat → Prop} {w : World} {cb mb : Nat} {S : List Ent} {t : Nat} (h : CAt O w cb mb S t) {e : Ed} {a : Option Addr} {m q : Nat} {c k : Int} (hc : In64 c) (hk : In64 k) (hl : look S c k = none) :
    Calls Try.prog 9 #[.pointer (some ⟨cb, 0, none⟩), .int .i64 c, .int .i64 k, edV e a m q] w fun e w' => GetR w.heap.size none 0 e w' ∧ Below w.heap.size w w' := by
  obtain ⟨D, ho, hT⟩ := h.own
  have hat := hT.at h.good hc hk (.held (mkV zeroK))
  have hhas := hT.has h.good hc hk
  rw [hl] at hat hhas
  simp only [Option.isSome_none] at hat hhas
  have hkey := keyI hc hk
  have HB : Hid (∀ o1 o2, Below w.heap.size w ((w.alloc o1).alloc o2)) := fun _ _ => bel_tr (bel_al _ _) (bel_al _ _)
  have HO : Hid (w.ownsMap Try.prog 61 rv mb S.length D) := ho
  have hc0 := h.c0
  have c0 : ∀ o1 o2, ((w.alloc o1).alloc o2).cell? ⟨cb, 0, none⟩ = some (.map (some mb)) := fun o1 o2 => bel_cell (HB.out o1 o2) hc0
  clear ho hT h hl hc0
  obtain ⟨k0, p, t0, c1, l, n, ls⟩ := e
  unfold edV
  simp only
  go_enter Try.func9, Try.ntmps9
  go_wp2_with (at_lookup; refine wpList_lookup_own_ok _ rfl _ _ 55 rfl 61 63 lawI Try.underlying55 rv (zeroKept _) (.held (mkV zeroK)) [] (rv_mk zeroK) mb _ D rfl ((HO.out.alloc _).alloc _) _ _ rfl hkey ?_; intro v ps hv; rw [hat] at hv; obtain rfl := rv_held hv; clear hv; unfold mkV zeroK; rw [hhas])
  exact bodyPost_ret (v := .tuple #[anV zeroA ⟨none, 0, none, 0⟩, .bool false, .int .i64 0]) (by simp [results, anV, zeroA, Try.results9, go_sem]) rfl ⟨⟨_, none, none, rfl, anOwn_zero _ _⟩, bel_tr (bel_tr (bel_al _ _) (bel_al _ _)) (bel_al _ _)⟩

theorem AnOwn.keep {base b2 : Nat} {O : Nat → Prop} {w w' : World} {x : Ans} {s : Sls} {g1 g2 : Option Nat} (h : AnOwn base w x s g1 g2) (hs : Stay O w w') (hO : ∀ k, O k → k < base) (hb : b2 ≤ base) : AnOwn b2 w' x s g1 g2 := by
  refine ⟨h.one.stay hs.size (fun k hk => hs.block k ?_ (fun e => ?_)) (fun _ e => Nat.le_trans hb e), h.two.stay hs.size (fun k hk => hs.block k ?_ (fun e => ?_)) (fun _ e => Nat.le_trans hb e), h.m1, h.m2⟩
  · have h1 := h.one; rw [hk] at h1; exact h1.lt.1
  · have h1 := h.one; rw [hk] at h1; have := h1.lt.2; have := hO k e; omega
  · have h1 := h.two; rw [hk] at h1; exact h1.lt.1
  · have h1 := h.two; rw [hk] at h1; have := h1.lt.2; have := hO k e; omega
theorem cells2 (w : World) (o : Obj) (t : TypeId) (vs : List Value) : Cells ((w.alloc o).alloc (.cells vs.toArray t)) (w.heap.size + 1) vs := by
  have := Cells.new (w.alloc o) t vs
  rw [show (w.alloc o).heap.size = w.heap.size + 1 by simp] at this
  exact this
theorem cells3 (w : World) (o o2 : Obj) (t : TypeId) (vs : List Value) : Cells (((w.alloc o).alloc o2).alloc (.cells vs.toArray t)) (w.heap.size + 1 + 1) vs := by
  have := Cells.new ((w.alloc o).alloc o2) t vs
  rw [show ((w.alloc o).alloc o2).heap.size = w.heap.size + 1 + 1 by simp] at this
  exact this


set_option maxRecDepth 100000 in
set_option maxHeartbeats 8000000 in
theorem get_bad {O : Nat → Prop} {w : World} {cb mb : Nat} {S : List Ent} {t : Nat} (h : CAt O w cb mb S t) {e : Ed} {a : Option Addr} {m q : Nat} (hnm : Nm w a m e.ls) {c k : Int} (hc : In64 c) (hk : In64 k) {x : Ent} (hl : look S c k = some x) (hr : ¬ Rt e) :
    Calls Try.prog 9 #[.pointer (some ⟨cb, 0, none⟩), .int .i64 c, .int .i64 k, edV e a m q] w fun e w' => GetR w.heap.size none 14 e w' ∧ Below w.heap.size w w' := by
  obtain ⟨D, ho, hT⟩ := h.own
  have hat := hT.at h.good hc hk (.held (mkV zeroK))
  have hhas := hT.has h.good hc hk
  rw [hl] at hat hhas
  simp only [Option.isSome_some] at hat hhas
  have hkey := keyI hc hk
  have HB : Hid (∀ o1 o2, Below w.heap.size w ((w.alloc o1).alloc o2)) := fun _ _ => bel_tr (bel_al _ _) (bel_al _ _)
  have HO : Hid (w.ownsMap Try.prog 61 rv mb S.length D) := ho
  have hc0 := h.c0
  have c0 : ∀ o1 o2, ((w.alloc o1).alloc o2).cell? ⟨cb, 0, none⟩ = some (.map (some mb)) := fun o1 o2 => bel_cell (HB.out o1 o2) hc0
  have HR : Hid (AnIn (fun k => O k ∧ k ≠ cb ∧ k ≠ mb) w x.x x.s) := h.rows x (look_mem hl).1
  have CE : Hid (∀ W, Below w.heap.size w W → Calls Try.prog 15 #[edV e a m q] W fun y w' => y = .returned (.tuple #[.string ⟨#[]⟩, .int .i64 1]) ∧ Below W.heap.size W w') := fun W hb => encode_no (hnm.below hb) hr
  clear ho hT h hl hc0 hnm
  have CP : Hid (∀ W, Below w.heap.size w W → Calls Try.prog 16 #[anV x.x x.s] W fun e w' => AnsR W.heap.size x.x e w' ∧ Below W.heap.size W w') := fun W hb => copied_val (HR.out.below hb)
  clear HR
  obtain ⟨xe, ⟨xerr, ⟨xb1, xb2, xb3⟩, xnames, xpath, xdir, xquota, xblocks, xwriter, xn⟩, ⟨xa1, xc1, xa2, xc2⟩, xt⟩ := x
  unfold entV at hat
  unfold anV at CP
  simp only at CP hat
  obtain ⟨xn1, hn1⟩ : ∃ n, n = xnames.length := ⟨_, rfl⟩
  obtain ⟨xn2, hn2⟩ : ∃ n, n = xblocks.length := ⟨_, rfl⟩
  rw [← hn1, ← hn2] at hat CP
  have CP2 : Hid _ := CP.out
  clear CP hn1 hn2
  obtain ⟨k0, p, t0, c1, l, n, ls⟩ := e
  unfold edV at *
  simp only at CE ⊢
  go_enter Try.func9, Try.ntmps9
  go_wp2_with (at_lookup; refine wpList_lookup_own_ok _ rfl _ _ 55 rfl 61 63 lawI Try.underlying55 rv (zeroKept _) (.held (mkV zeroK)) [] (rv_mk zeroK) mb _ D rfl ((HO.out.alloc _).alloc _) _ _ rfl hkey ?_; intro v ps hv; rw [hat] at hv; obtain rfl := rv_held hv; clear hv; rw [hhas])
  have KX : Hid (Cells (((w.alloc (.cells #[.int .i64 k0, .string p, .string t0, .int .i64 c1, .int .i64 l, .int .i64 n, .slice a m q] 32)).alloc (.cells #[.int .i64 0, .int .i64 0, .int .i64 0, .int .i64 0, .slice none 0 0, .string ⟨#[]⟩, .bool false, .int .i64 0, .slice none 0 0, .int .i64 0, .int .i64 0] 41)).alloc (.cells #[.string (encS xe), .int .i64 xerr, .int .i64 xb1, .int .i64 xb2, .int .i64 xb3, .slice xa1 xn1 xc1, .string xpath, .bool xdir, .int .i64 xquota, .slice xa2 xn2 xc2, .int .i64 xwriter, .int .i64 xn, .int .i64 (xt : Int)] 63)) (w.heap.size + 1 + 1) [.string (encS xe), .int .i64 xerr, .int .i64 xb1, .int .i64 xb2, .int .i64 xb3, .slice xa1 xn1 xc1, .string xpath, .bool xdir, .int .i64 xquota, .slice xa2 xn2 xc2, .int .i64 xwriter, .int .i64 xn, .int .i64 (xt : Int)]) := cells3 _ _ _ _ _
  have KZ : Hid (Cells (((w.alloc (.cells #[.int .i64 k0, .string p, .string t0, .int .i64 c1, .int .i64 l, .int .i64 n, .slice a m q] 32)).alloc (.cells #[.int .i64 0, .int .i64 0, .int .i64 0, .int .i64 0, .slice none 0 0, .string ⟨#[]⟩, .bool false, .int .i64 0, .slice none 0 0, .int .i64 0, .int .i64 0] 41)).alloc (.cells #[.string (encS xe), .int .i64 xerr, .int .i64 xb1, .int .i64 xb2, .int .i64 xb3, .slice xa1 xn1 xc1, .string xpath, .bool xdir, .int .i64 xquota, .slice xa2 xn2 xc2, .int .i64 xwriter, .int .i64 xn, .int .i64 (xt : Int)] 63)) (w.heap.size + 1) [.int .i64 0, .int .i64 0, .int .i64 0, .int .i64 0, .slice none 0 0, .string ⟨#[]⟩, .bool false, .int .i64 0, .slice none 0 0, .int .i64 0, .int .i64 0]) := (cells2 _ _ _ _).below (bel_al _ _)
  refine (CE.out _ (bel_tr (HB.out _ _) (bel_al _ _))).mono ?_
  rintro y w4 ⟨rfl, b4⟩
  replace KX : Hid _ := KX.out.below b4
  replace KZ : Hid _ := KZ.out.below b4
  have KB : Hid (Below w.heap.size w w4) := bel_tr (bel_tr (HB.out _ _) (bel_al _ _)) b4
  clear b4 c0 HB HO CE
  have KX2 := KX.out
  have KZ2 := KZ.out
  have x0 := KX2.val 0 _ rfl
  have x1 := KX2.val 1 _ rfl
  have x2 := KX2.val 2 _ rfl
  have x3 := KX2.val 3 _ rfl
  have x4 := KX2.val 4 _ rfl
  have x5 := KX2.val 5 _ rfl
  have x6 := KX2.val 6 _ rfl
  have x7 := KX2.val 7 _ rfl
  have x8 := KX2.val 8 _ rfl
  have x9 := KX2.val 9 _ rfl
  have x10 := KX2.val 10 _ rfl
  have x11 := KX2.val 11 _ rfl
  have x12 := KX2.val 12 _ rfl
  have z0 := KZ2.val 0 _ rfl
  have z1 := KZ2.val 1 _ rfl
  have z2 := KZ2.val 2 _ rfl
  have z3 := KZ2.val 3 _ rfl
  have z4 := KZ2.val 4 _ rfl
  have z5 := KZ2.val 5 _ rfl
  have z6 := KZ2.val 6 _ rfl
  have z7 := KZ2.val 7 _ rfl
  have z8 := KZ2.val 8 _ rfl
  have z9 := KZ2.val 9 _ rfl
  have z10 := KZ2.val 10 _ rfl
  have g0 := KZ2.fr 0
  have g1 := KZ2.fr 1
  have g2 := KZ2.fr 2
  have g3 := KZ2.fr 3
  have g4 := KZ2.fr 4
  have g5 := KZ2.fr 5
  have g6 := KZ2.fr 6
  have g7 := KZ2.fr 7
  have g8 := KZ2.fr 8
  have g9 := KZ2.fr 9
  have g10 := KZ2.fr 10
  clear KX2
  obtain ⟨WF, hWF⟩ : ∃ WF, w4.setCells (w.heap.size + 1) 0 [.int .i64 0, .int .i64 0, .int .i64 0, .int .i64 0, .slice none 0 0, .string ⟨#[]⟩, .bool false, .int .i64 0, .slice none 0 0, .int .i64 0, .int .i64 0] = WF := ⟨_, rfl⟩
  have KF : Hid (Cells WF (w.heap.size + 1) [.int .i64 0, .int .i64 0, .int .i64 0, .int .i64 0, .slice none 0 0, .string ⟨#[]⟩, .bool false, .int .i64 0, .slice none 0 0, .int .i64 0, .int .i64 0]) := by rw [← hWF]; exact KZ.out.puts _ rfl
  have SF : Hid (Stay (fun k => k = w.heap.size + 1) w4 WF) := by rw [← hWF]; exact Stay.setCells (O := fun k => k = w.heap.size + 1) (w.heap.size + 1) 0 _ _ rfl
  simp only [World.setCells] at hWF
  have HWF : Hid _ := hWF
  clear hWF KZ2
  go_wp2
  rw [HWF.out]
  clear z0 z1 z2 z3 z4 z5 z6 z7 z8 z9 z10
  have KF2 := KF.out
  have r0 := KF2.val 0 _ rfl
  have r1 := KF2.val 1 _ rfl
  have r2 := KF2.val 2 _ rfl
  have r3 := KF2.val 3 _ rfl
  have r4 := KF2.val 4 _ rfl
  have r5 := KF2.val 5 _ rfl
  have r6 := KF2.val 6 _ rfl
  have r7 := KF2.val 7 _ rfl
  have r8 := KF2.val 8 _ rfl
  have r9 := KF2.val 9 _ rfl
  have r10 := KF2.val 10 _ rfl
  exact bodyPost_ret (v := .tuple #[anV zeroA ⟨none, 0, none, 0⟩, .bool false, .int .i64 14]) (by simp [results, anV, zeroA, Try.results9, go_sem, r0, r1, r2, r3, r4, r5, r6, r7, r8, r9, r10]) rfl ⟨⟨_, none, none, rfl, anOwn_zero _ _⟩, KB.out.trans (SF.out.below KB.out.size (fun k hk => by omega))⟩

set_option maxRecDepth 100000 in
set_option maxHeartbeats 8000000 in
theorem get_other {O : Nat → Prop} {w : World} {cb mb : Nat} {S : List Ent} {t : Nat} (h : CAt O w cb mb S t) {e : Ed} {a : Option Addr} {m q : Nat} (hnm : Nm w a m e.ls) {c k : Int} (hc : In64 c) (hk : In64 k) {x : Ent} (hl : look S c k = some x) (hr : Rt e) (hne : ¬ x.ed = e) :
    Calls Try.prog 9 #[.pointer (some ⟨cb, 0, none⟩), .int .i64 c, .int .i64 k, edV e a m q] w fun e w' => GetR w.heap.size none 14 e w' ∧ Below w.heap.size w w' := by
  obtain ⟨D, ho, hT⟩ := h.own
  have hat := hT.at h.good hc hk (.held (mkV zeroK))
  have hhas := hT.has h.good hc hk
  rw [hl] at hat hhas
  simp only [Option.isSome_some] at hat hhas
  have hkey := keyI hc hk
  have HB : Hid (∀ o1 o2, Below w.heap.size w ((w.alloc o1).alloc o2)) := fun _ _ => bel_tr (bel_al _ _) (bel_al _ _)
  have HO : Hid (w.ownsMap Try.prog 61 rv mb S.length D) := ho
  have hc0 := h.c0
  have c0 : ∀ o1 o2, ((w.alloc o1).alloc o2).cell? ⟨cb, 0, none⟩ = some (.map (some mb)) := fun o1 o2 => bel_cell (HB.out o1 o2) hc0
  have HR : Hid (AnIn (fun k => O k ∧ k ≠ cb ∧ k ≠ mb) w x.x x.s) := h.rows x (look_mem hl).1
  have CE : Hid (∀ W, Below w.heap.size w W → Calls Try.prog 15 #[edV e a m q] W fun y w' => y = .returned (.tuple #[.string (encS e), .int .i64 0]) ∧ Below W.heap.size W w') := fun W hb => encode_yes (hnm.below hb) hr _ rfl
  have hbb : ((encS x.ed).toList == (encS e).toList) = false := by
    rw [same_eq, decide_eq_false (fun e2 => hne (enc_inj (h.good.rt x (look_mem hl).1) hr e2))]
  clear hne hr
  generalize encS e = EE at *
  clear ho hT h hl hc0 hnm
  have CP : Hid (∀ W, Below w.heap.size w W → Calls Try.prog 16 #[anV x.x x.s] W fun e w' => AnsR W.heap.size x.x e w' ∧ Below W.heap.size W w') := fun W hb => copied_val (HR.out.below hb)
  clear HR
  obtain ⟨xe, ⟨xerr, ⟨xb1, xb2, xb3⟩, xnames, xpath, xdir, xquota, xblocks, xwriter, xn⟩, ⟨xa1, xc1, xa2, xc2⟩, xt⟩ := x
  unfold entV at hat
  unfold anV at CP
  simp only at CP hat
  obtain ⟨xn1, hn1⟩ : ∃ n, n = xnames.length := ⟨_, rfl⟩
  obtain ⟨xn2, hn2⟩ : ∃ n, n = xblocks.length := ⟨_, rfl⟩
  rw [← hn1, ← hn2] at hat CP
  have CP2 : Hid _ := CP.out
  clear CP hn1 hn2
  obtain ⟨k0, p, t0, c1, l, n, ls⟩ := e
  unfold edV at *
  simp only at CE ⊢
  go_enter Try.func9, Try.ntmps9
  go_wp2_with (at_lookup; refine wpList_lookup_own_ok _ rfl _ _ 55 rfl 61 63 lawI Try.underlying55 rv (zeroKept _) (.held (mkV zeroK)) [] (rv_mk zeroK) mb _ D rfl ((HO.out.alloc _).alloc _) _ _ rfl hkey ?_; intro v ps hv; rw [hat] at hv; obtain rfl := rv_held hv; clear hv; rw [hhas])
  have KX : Hid (Cells (((w.alloc (.cells #[.int .i64 k0, .string p, .string t0, .int .i64 c1, .int .i64 l, .int .i64 n, .slice a m q] 32)).alloc (.cells #[.int .i64 0, .int .i64 0, .int .i64 0, .int .i64 0, .slice none 0 0, .string ⟨#[]⟩, .bool false, .int .i64 0, .slice none 0 0, .int .i64 0, .int .i64 0] 41)).alloc (.cells #[.string (encS xe), .int .i64 xerr, .int .i64 xb1, .int .i64 xb2, .int .i64 xb3, .slice xa1 xn1 xc1, .string xpath, .bool xdir, .int .i64 xquota, .slice xa2 xn2 xc2, .int .i64 xwriter, .int .i64 xn, .int .i64 (xt : Int)] 63)) (w.heap.size + 1 + 1) [.string (encS xe), .int .i64 xerr, .int .i64 xb1, .int .i64 xb2, .int .i64 xb3, .slice xa1 xn1 xc1, .string xpath, .bool xdir, .int .i64 xquota, .slice xa2 xn2 xc2, .int .i64 xwriter, .int .i64 xn, .int .i64 (xt : Int)]) := cells3 _ _ _ _ _
  have KZ : Hid (Cells (((w.alloc (.cells #[.int .i64 k0, .string p, .string t0, .int .i64 c1, .int .i64 l, .int .i64 n, .slice a m q] 32)).alloc (.cells #[.int .i64 0, .int .i64 0, .int .i64 0, .int .i64 0, .slice none 0 0, .string ⟨#[]⟩, .bool false, .int .i64 0, .slice none 0 0, .int .i64 0, .int .i64 0] 41)).alloc (.cells #[.string (encS xe), .int .i64 xerr, .int .i64 xb1, .int .i64 xb2, .int .i64 xb3, .slice xa1 xn1 xc1, .string xpath, .bool xdir, .int .i64 xquota, .slice xa2 xn2 xc2, .int .i64 xwriter, .int .i64 xn, .int .i64 (xt : Int)] 63)) (w.heap.size + 1) [.int .i64 0, .int .i64 0, .int .i64 0, .int .i64 0, .slice none 0 0, .string ⟨#[]⟩, .bool false, .int .i64 0, .slice none 0 0, .int .i64 0, .int .i64 0]) := (cells2 _ _ _ _).below (bel_al _ _)
  refine (CE.out _ (bel_tr (HB.out _ _) (bel_al _ _))).mono ?_
  rintro y w4 ⟨rfl, b4⟩
  replace KX : Hid _ := KX.out.below b4
  replace KZ : Hid _ := KZ.out.below b4
  have KB : Hid (Below w.heap.size w w4) := bel_tr (bel_tr (HB.out _ _) (bel_al _ _)) b4
  clear b4 c0 HB HO CE
  have KX2 := KX.out
  have KZ2 := KZ.out
  have x0 := KX2.val 0 _ rfl
  have x1 := KX2.val 1 _ rfl
  have x2 := KX2.val 2 _ rfl
  have x3 := KX2.val 3 _ rfl
  have x4 := KX2.val 4 _ rfl
  have x5 := KX2.val 5 _ rfl
  have x6 := KX2.val 6 _ rfl
  have x7 := KX2.val 7 _ rfl
  have x8 := KX2.val 8 _ rfl
  have x9 := KX2.val 9 _ rfl
  have x10 := KX2.val 10 _ rfl
  have x11 := KX2.val 11 _ rfl
  have x12 := KX2.val 12 _ rfl
  have z0 := KZ2.val 0 _ rfl
  have z1 := KZ2.val 1 _ rfl
  have z2 := KZ2.val 2 _ rfl
  have z3 := KZ2.val 3 _ rfl
  have z4 := KZ2.val 4 _ rfl
  have z5 := KZ2.val 5 _ rfl
  have z6 := KZ2.val 6 _ rfl
  have z7 := KZ2.val 7 _ rfl
  have z8 := KZ2.val 8 _ rfl
  have z9 := KZ2.val 9 _ rfl
  have z10 := KZ2.val 10 _ rfl
  have g0 := KZ2.fr 0
  have g1 := KZ2.fr 1
  have g2 := KZ2.fr 2
  have g3 := KZ2.fr 3
  have g4 := KZ2.fr 4
  have g5 := KZ2.fr 5
  have g6 := KZ2.fr 6
  have g7 := KZ2.fr 7
  have g8 := KZ2.fr 8
  have g9 := KZ2.fr 9
  have g10 := KZ2.fr 10
  clear KX2
  obtain ⟨WF, hWF⟩ : ∃ WF, w4.setCells (w.heap.size + 1) 0 [.int .i64 0, .int .i64 0, .int .i64 0, .int .i64 0, .slice none 0 0, .string ⟨#[]⟩, .bool false, .int .i64 0, .slice none 0 0, .int .i64 0, .int .i64 0] = WF := ⟨_, rfl⟩
  have KF : Hid (Cells WF (w.heap.size + 1) [.int .i64 0, .int .i64 0, .int .i64 0, .int .i64 0, .slice none 0 0, .string ⟨#[]⟩, .bool false, .int .i64 0, .slice none 0 0, .int .i64 0, .int .i64 0]) := by rw [← hWF]; exact KZ.out.puts _ rfl
  have SF : Hid (Stay (fun k => k = w.heap.size + 1) w4 WF) := by rw [← hWF]; exact Stay.setCells (O := fun k => k = w.heap.size + 1) (w.heap.size + 1) 0 _ _ rfl
  simp only [World.setCells] at hWF
  have HWF : Hid _ := hWF
  clear hWF KZ2
  go_wp2
  rw [HWF.out]
  clear z0 z1 z2 z3 z4 z5 z6 z7 z8 z9 z10
  have KF2 := KF.out
  have r0 := KF2.val 0 _ rfl
  have r1 := KF2.val 1 _ rfl
  have r2 := KF2.val 2 _ rfl
  have r3 := KF2.val 3 _ rfl
  have r4 := KF2.val 4 _ rfl
  have r5 := KF2.val 5 _ rfl
  have r6 := KF2.val 6 _ rfl
  have r7 := KF2.val 7 _ rfl
  have r8 := KF2.val 8 _ rfl
  have r9 := KF2.val 9 _ rfl
  have r10 := KF2.val 10 _ rfl
  exact bodyPost_ret (v := .tuple #[anV zeroA ⟨none, 0, none, 0⟩, .bool false, .int .i64 14]) (by simp [results, anV, zeroA, Try.results9, go_sem, r0, r1, r2, r3, r4, r5, r6, r7, r8, r9, r10]) rfl ⟨⟨_, none, none, rfl, anOwn_zero _ _⟩, KB.out.trans (SF.out.below KB.out.size (fun k hk => by omega))⟩

set_option maxRecDepth 100000 in
set_option maxHeartbeats 8000000 in
theorem get_same {O : Nat → Prop} {w : World} {cb mb : Nat} {S : List Ent} {t : Nat} (h : CAt O w cb mb S t) {e : Ed} {a : Option Addr} {m q : Nat} (hnm : Nm w a m e.ls) {c k : Int} (hc : In64 c) (hk : In64 k) {x : Ent} (hl : look S c k = some x) (hr : Rt e) (hne : x.ed = e) :
    Calls Try.prog 9 #[.pointer (some ⟨cb, 0, none⟩), .int .i64 c, .int .i64 k, edV e a m q] w fun e w' => GetR w.heap.size (some x.x) 0 e w' ∧ Below w.heap.size w w' := by
  obtain ⟨D, ho, hT⟩ := h.own
  have hat := hT.at h.good hc hk (.held (mkV zeroK))
  have hhas := hT.has h.good hc hk
  rw [hl] at hat hhas
  simp only [Option.isSome_some] at hat hhas
  have hkey := keyI hc hk
  have HB : Hid (∀ o1 o2, Below w.heap.size w ((w.alloc o1).alloc o2)) := fun _ _ => bel_tr (bel_al _ _) (bel_al _ _)
  have HO : Hid (w.ownsMap Try.prog 61 rv mb S.length D) := ho
  have hc0 := h.c0
  have c0 : ∀ o1 o2, ((w.alloc o1).alloc o2).cell? ⟨cb, 0, none⟩ = some (.map (some mb)) := fun o1 o2 => bel_cell (HB.out o1 o2) hc0
  have HR : Hid (AnIn (fun k => O k ∧ k ≠ cb ∧ k ≠ mb) w x.x x.s) := h.rows x (look_mem hl).1
  have CE : Hid (∀ W, Below w.heap.size w W → Calls Try.prog 15 #[edV e a m q] W fun y w' => y = .returned (.tuple #[.string (encS e), .int .i64 0]) ∧ Below W.heap.size W w') := fun W hb => encode_yes (hnm.below hb) hr _ rfl
  have hbb : ((encS x.ed).toList == (encS e).toList) = true := by rw [hne, same_eq, decide_eq_true rfl]
  clear hne hr
  generalize encS e = EE at *
  clear ho hT h hl hc0 hnm
  have CP : Hid (∀ W, Below w.heap.size w W → Calls Try.prog 16 #[anV x.x x.s] W fun e w' => AnsR W.heap.size x.x e w' ∧ Below W.heap.size W w') := fun W hb => copied_val (HR.out.below hb)
  clear HR
  obtain ⟨xe, ⟨xerr, ⟨xb1, xb2, xb3⟩, xnames, xpath, xdir, xquota, xblocks, xwriter, xn⟩, ⟨xa1, xc1, xa2, xc2⟩, xt⟩ := x
  unfold entV at hat
  unfold anV at CP
  simp only at CP hat
  obtain ⟨xn1, hn1⟩ : ∃ n, n = xnames.length := ⟨_, rfl⟩
  obtain ⟨xn2, hn2⟩ : ∃ n, n = xblocks.length := ⟨_, rfl⟩
  rw [← hn1, ← hn2] at hat CP
  have CP2 : Hid _ := CP.out
  clear CP hn1 hn2
  obtain ⟨k0, p, t0, c1, l, n, ls⟩ := e
  unfold edV at *
  simp only at CE ⊢
  go_enter Try.func9, Try.ntmps9
  go_wp2_with (at_lookup; refine wpList_lookup_own_ok _ rfl _ _ 55 rfl 61 63 lawI Try.underlying55 rv (zeroKept _) (.held (mkV zeroK)) [] (rv_mk zeroK) mb _ D rfl ((HO.out.alloc _).alloc _) _ _ rfl hkey ?_; intro v ps hv; rw [hat] at hv; obtain rfl := rv_held hv; clear hv; rw [hhas])
  have KX : Hid (Cells (((w.alloc (.cells #[.int .i64 k0, .string p, .string t0, .int .i64 c1, .int .i64 l, .int .i64 n, .slice a m q] 32)).alloc (.cells #[.int .i64 0, .int .i64 0, .int .i64 0, .int .i64 0, .slice none 0 0, .string ⟨#[]⟩, .bool false, .int .i64 0, .slice none 0 0, .int .i64 0, .int .i64 0] 41)).alloc (.cells #[.string (encS xe), .int .i64 xerr, .int .i64 xb1, .int .i64 xb2, .int .i64 xb3, .slice xa1 xn1 xc1, .string xpath, .bool xdir, .int .i64 xquota, .slice xa2 xn2 xc2, .int .i64 xwriter, .int .i64 xn, .int .i64 (xt : Int)] 63)) (w.heap.size + 1 + 1) [.string (encS xe), .int .i64 xerr, .int .i64 xb1, .int .i64 xb2, .int .i64 xb3, .slice xa1 xn1 xc1, .string xpath, .bool xdir, .int .i64 xquota, .slice xa2 xn2 xc2, .int .i64 xwriter, .int .i64 xn, .int .i64 (xt : Int)]) := cells3 _ _ _ _ _
  have KZ : Hid (Cells (((w.alloc (.cells #[.int .i64 k0, .string p, .string t0, .int .i64 c1, .int .i64 l, .int .i64 n, .slice a m q] 32)).alloc (.cells #[.int .i64 0, .int .i64 0, .int .i64 0, .int .i64 0, .slice none 0 0, .string ⟨#[]⟩, .bool false, .int .i64 0, .slice none 0 0, .int .i64 0, .int .i64 0] 41)).alloc (.cells #[.string (encS xe), .int .i64 xerr, .int .i64 xb1, .int .i64 xb2, .int .i64 xb3, .slice xa1 xn1 xc1, .string xpath, .bool xdir, .int .i64 xquota, .slice xa2 xn2 xc2, .int .i64 xwriter, .int .i64 xn, .int .i64 (xt : Int)] 63)) (w.heap.size + 1) [.int .i64 0, .int .i64 0, .int .i64 0, .int .i64 0, .slice none 0 0, .string ⟨#[]⟩, .bool false, .int .i64 0, .slice none 0 0, .int .i64 0, .int .i64 0]) := (cells2 _ _ _ _).below (bel_al _ _)
  refine (CE.out _ (bel_tr (HB.out _ _) (bel_al _ _))).mono ?_
  rintro y w4 ⟨rfl, b4⟩
  replace KX : Hid _ := KX.out.below b4
  replace KZ : Hid _ := KZ.out.below b4
  have KB : Hid (Below w.heap.size w w4) := bel_tr (bel_tr (HB.out _ _) (bel_al _ _)) b4
  clear b4 c0 HB HO CE
  have KX2 := KX.out
  have KZ2 := KZ.out
  have x0 := KX2.val 0 _ rfl
  have x1 := KX2.val 1 _ rfl
  have x2 := KX2.val 2 _ rfl
  have x3 := KX2.val 3 _ rfl
  have x4 := KX2.val 4 _ rfl
  have x5 := KX2.val 5 _ rfl
  have x6 := KX2.val 6 _ rfl
  have x7 := KX2.val 7 _ rfl
  have x8 := KX2.val 8 _ rfl
  have x9 := KX2.val 9 _ rfl
  have x10 := KX2.val 10 _ rfl
  have x11 := KX2.val 11 _ rfl
  have x12 := KX2.val 12 _ rfl
  have z0 := KZ2.val 0 _ rfl
  have z1 := KZ2.val 1 _ rfl
  have z2 := KZ2.val 2 _ rfl
  have z3 := KZ2.val 3 _ rfl
  have z4 := KZ2.val 4 _ rfl
  have z5 := KZ2.val 5 _ rfl
  have z6 := KZ2.val 6 _ rfl
  have z7 := KZ2.val 7 _ rfl
  have z8 := KZ2.val 8 _ rfl
  have z9 := KZ2.val 9 _ rfl
  have z10 := KZ2.val 10 _ rfl
  have g0 := KZ2.fr 0
  have g1 := KZ2.fr 1
  have g2 := KZ2.fr 2
  have g3 := KZ2.fr 3
  have g4 := KZ2.fr 4
  have g5 := KZ2.fr 5
  have g6 := KZ2.fr 6
  have g7 := KZ2.fr 7
  have g8 := KZ2.fr 8
  have g9 := KZ2.fr 9
  have g10 := KZ2.fr 10
  clear KX2
  clear KZ2
  go_wp2_with fail
  refine (CP2.out _ KB.out).mono ?_
  rintro y w5 ⟨⟨s2, g1', g2', rfl, hOwn⟩, b5⟩
  have HZ4 := KZ.out.lt
  clear x0 x1 x2 x3 x4 x5 x6 x7 x8 x9 x10 x11 x12 z0 z1 z2 z3 z4 z5 z6 z7 z8 z9 z10 g0 g1 g2 g3 g4 g5 g6 g7 g8 g9 g10 KX
  replace KZ : Hid _ := KZ.out.below b5
  have KB5 : Hid (Below w.heap.size w w5) := bel_tr KB.out b5
  have HW4 : Hid (w.heap.size + 1 < w4.heap.size) := HZ4
  have HOW : Hid (AnOwn w4.heap.size w5 ⟨xerr, ⟨xb1, xb2, xb3⟩, xnames, xpath, xdir, xquota, xblocks, xwriter, xn⟩ s2 g1' g2') := hOwn
  clear b5 hOwn
  unfold anV
  simp only
  have KZ2 := KZ.out
  have z0 := KZ2.val 0 _ rfl
  have z1 := KZ2.val 1 _ rfl
  have z2 := KZ2.val 2 _ rfl
  have z3 := KZ2.val 3 _ rfl
  have z4 := KZ2.val 4 _ rfl
  have z5 := KZ2.val 5 _ rfl
  have z6 := KZ2.val 6 _ rfl
  have z7 := KZ2.val 7 _ rfl
  have z8 := KZ2.val 8 _ rfl
  have z9 := KZ2.val 9 _ rfl
  have z10 := KZ2.val 10 _ rfl
  have g0 := KZ2.fr 0
  have g1 := KZ2.fr 1
  have g2 := KZ2.fr 2
  have g3 := KZ2.fr 3
  have g4 := KZ2.fr 4
  have g5 := KZ2.fr 5
  have g6 := KZ2.fr 6
  have g7 := KZ2.fr 7
  have g8 := KZ2.fr 8
  have g9 := KZ2.fr 9
  have g10 := KZ2.fr 10
  obtain ⟨WF, hWF⟩ : ∃ WF, w5.setCells (w.heap.size + 1) 0 [.int .i64 xerr, .int .i64 xb1, .int .i64 xb2, .int .i64 xb3, .slice s2.a1 xnames.length s2.c1, .string xpath, .bool xdir, .int .i64 xquota, .slice s2.a2 xblocks.length s2.c2, .int .i64 xwriter, .int .i64 xn] = WF := ⟨_, rfl⟩
  have KF : Hid (Cells WF (w.heap.size + 1) [.int .i64 xerr, .int .i64 xb1, .int .i64 xb2, .int .i64 xb3, .slice s2.a1 xnames.length s2.c1, .string xpath, .bool xdir, .int .i64 xquota, .slice s2.a2 xblocks.length s2.c2, .int .i64 xwriter, .int .i64 xn]) := by rw [← hWF]; exact KZ.out.puts _ rfl
  have SF : Hid (Stay (fun k => k = w.heap.size + 1) w5 WF) := by rw [← hWF]; exact Stay.setCells (O := fun k => k = w.heap.size + 1) (w.heap.size + 1) 0 _ _ rfl
  simp only [World.setCells] at hWF
  have HWF : Hid _ := hWF
  clear hWF KZ2
  go_wp2
  rw [HWF.out]
  clear z0 z1 z2 z3 z4 z5 z6 z7 z8 z9 z10
  have KF2 := KF.out
  have r0 := KF2.val 0 _ rfl
  have r1 := KF2.val 1 _ rfl
  have r2 := KF2.val 2 _ rfl
  have r3 := KF2.val 3 _ rfl
  have r4 := KF2.val 4 _ rfl
  have r5 := KF2.val 5 _ rfl
  have r6 := KF2.val 6 _ rfl
  have r7 := KF2.val 7 _ rfl
  have r8 := KF2.val 8 _ rfl
  have r9 := KF2.val 9 _ rfl
  have r10 := KF2.val 10 _ rfl
  have hO2 : AnOwn w.heap.size WF ⟨xerr, ⟨xb1, xb2, xb3⟩, xnames, xpath, xdir, xquota, xblocks, xwriter, xn⟩ s2 g1' g2' := HOW.out.keep SF.out (fun k hk => by have := HW4.out; omega) (by have := HW4.out; omega)
  exact bodyPost_ret (v := .tuple #[anV ⟨xerr, ⟨xb1, xb2, xb3⟩, xnames, xpath, xdir, xquota, xblocks, xwriter, xn⟩ s2, .bool true, .int .i64 0]) (by simp [results, anV, Try.results9, go_sem, r0, r1, r2, r3, r4, r5, r6, r7, r8, r9, r10]) rfl ⟨⟨s2, g1', g2', rfl, hO2⟩, KB5.out.trans (SF.out.below KB5.out.size (fun k hk => by omega))⟩

theorem get_val {O : Nat → Prop} {w : World} {cb mb : Nat} {S : List Ent} {t : Nat} (h : CAt O w cb mb S t) {e : Ed} {a : Option Addr} {m q : Nat} (hnm : Nm w a m e.ls) {c k : Int} (hc : In64 c) (hk : In64 k) (o : Option Ans) (err : Int) (ho : getO S c k e = (o, err)) :
    Calls Try.prog 9 #[.pointer (some ⟨cb, 0, none⟩), .int .i64 c, .int .i64 k, edV e a m q] w fun e w' => GetR w.heap.size o err e w' ∧ Below w.heap.size w w' := by
  unfold getO at ho
  cases hl : look S c k with
  | none =>
    rw [hl] at ho
    cases ho
    exact get_none h hc hk hl
  | some x =>
    rw [hl] at ho
    simp only at ho
    by_cases he : x.ed = e
    · rw [if_pos he] at ho
      cases ho
      exact get_same h hnm hc hk hl (he ▸ h.good.rt x (look_mem hl).1) he
    · rw [if_neg he] at ho
      cases ho
      by_cases hr : Rt e
      · exact get_other h hnm hc hk hl hr he
      · exact get_bad h hnm hc hk hl hr

end Go.Proofs.Ythogpaojdlfjcaa.Rty
