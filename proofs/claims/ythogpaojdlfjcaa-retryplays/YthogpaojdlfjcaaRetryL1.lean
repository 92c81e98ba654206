/- The contract of tabulariumlaw13.examples, pick. -/
import Derived.Test.YthogpaojdlfjcaaRetryS
namespace Go.Proofs.Ythogpaojdlfjcaa.Rty
open Go.RowKit Go.Proofs.Ythogpaojdlfjcaa Go.Proofs.Ythogpaojdlfjcaa.Edi

/-- A plain edit. -/
def edP (k : Int) (p : ByteArray) (c l : Int) : Ed := ⟨k, p, ⟨#[]⟩, c, l, 0, []⟩
theorem rt_edP {k : Int} {p : ByteArray} {c l : Int} (hk : 1 ≤ k ∧ k ≤ 3) (hp : p.size ≤ 120) (hc : 0 ≤ c ∧ c ≤ 3) (hl : 0 ≤ l ∧ l ≤ 1000000) : Rt (edP k p c l) := by
  have k4 : ¬ k = 4 := by omega
  have k7 : ¬ k = 7 := by omega
  have k8 : ¬ (k = 7 ∨ k = 8 ∨ k = 9) := by omega
  refine ⟨inB_yes (by show 1 ≤ k; omega) (by show k ≤ 10; omega), hp, ?_, inB_yes hc.1 hc.2, inB_yes hl.1 (by show l ≤ _; omega), ?_, Nat.zero_le _, rfl⟩
  · show (0 : Nat) ≤ _; omega
  · show inB (loN k) 0 (hiN k) = true
    unfold loN hiN
    rw [if_neg k7, if_neg k8]
    rfl
/-- A plain answer. -/
def anP (n : Int) : Ans := ⟨0, ⟨0, 0, 0⟩, [], ⟨#[]⟩, false, 0, [], 0, n⟩
theorem anP_in (O : Nat → Prop) (w : World) (n : Int) (s : Sls) : AnIn O w (anP n) s := ⟨Lie.nil _ _ _ _, Lie.nil _ _ _ _, by simp [anP], by simp [anP]⟩

theorem lookA_one (e : Ed) (x : Ans) : lookA [(e, x)] e.c e.l = some (e, x) := by simp [lookA, isA]
theorem getA_yes {A : CL} {c k : Int} {e : Ed} {x : Ans} (h : lookA A c k = some (e, x)) : getA A c k e = (some x, 0) := by
  unfold getA; rw [h]; simp
theorem getA_no {A : CL} {c k : Int} {e f : Ed} {x : Ans} (h : lookA A c k = some (e, x)) (hne : e ≠ f) : getA A c k f = (none, 14) := by
  unfold getA; rw [h]; simp [hne]
theorem getA_none {A : CL} {c k : Int} {f : Ed} (h : lookA A c k = none) : getA A c k f = (none, 0) := by
  unfold getA; rw [h]
theorem putA_nil (e : Ed) (x : Ans) : putA [] e x = [(e, x)] := by simp [putA, putA0]

def pa : ByteArray := ⟨#[47, 97]⟩
def pb : ByteArray := ⟨#[47, 98]⟩

set_option maxRecDepth 100000 in
set_option maxHeartbeats 8000000 in
theorem examples13_val (w : World) : Calls Try.prog 4 #[] w fun e w' => e = .returned (.bool true) ∧ Below w.heap.size w w' := by
  have hE : Rt (edP 1 pa 1 7) := rt_edP (by omega) (by decide) (by omega) (by omega)
  have hne : edP 1 pa 1 7 ≠ edP 1 pb 1 7 := fun h => by
    have := congrArg Ed.p h
    have h2 : pa = pb := this
    exact absurd (congrArg (fun b : ByteArray => b.data.toList) h2) (by decide)
  have g1 : getA [(edP 1 pa 1 7, anP 5)] 1 7 (edP 1 pa 1 7) = (some (anP 5), 0) := getA_yes (lookA_one (edP 1 pa 1 7) (anP 5))
  have g2 : getA [(edP 1 pa 1 7, anP 5)] 1 7 (edP 1 pb 1 7) = (none, 14) := getA_no (lookA_one (edP 1 pa 1 7) (anP 5)) hne
  have g3 : getA [(edP 1 pa 1 7, anP 5)] 1 8 (edP 1 pa 1 7) = (none, 0) := getA_none rfl
  have i1 : In64 1 := by unfold In64; omega
  have i7 : In64 7 := by unfold In64; omega
  have i8 : In64 8 := by unfold In64; omega
  have hp : PutE [] 1 7 (edP 1 pa 1 7) (anP 5) 0 [(edP 1 pa 1 7, anP 5)] := by
    have := PutE.ok (A := []) (c := 1) (k := 7) (e := edP 1 pa 1 7) (x := anP 5) hE rfl rfl (fun p h => by cases h)
    rw [putA_nil] at this
    exact this
  have CP : Hid (∀ L W cb, Sep w L W (Cac cb [] 0) Non → Calls Try.prog 7 #[.pointer (some ⟨cb, 0, none⟩), .int .i64 1, .int .i64 7, .agg #[.int .i64 1, .string ⟨#[47, 97]⟩, .string ⟨#[]⟩, .int .i64 1, .int .i64 7, .int .i64 0, .slice none 0 0], (.agg #[.int .i64 0, .int .i64 0, .int .i64 0, .int .i64 0, .slice none 0 0, .string ⟨#[]⟩, .bool false, .int .i64 0, .slice none 0 0, .int .i64 0, .int .i64 5])] W fun y w' => y = .returned (.int .i64 0) ∧ Sep w L w' (Cac cb [(edP 1 pa 1 7, anP 5)] 1) Non) := fun L W cb h => s_put (e := edP 1 pa 1 7) (x := anP 5) (s := ⟨none, 0, none, 0⟩) h stNon (by omega) (Nm.nil W) (anP_in _ _ _ _) hp
  have C1 : Hid (∀ L W cb, Sep w L W (Cac cb [(edP 1 pa 1 7, anP 5)] 1) Non → Calls Try.prog 9 #[.pointer (some ⟨cb, 0, none⟩), .int .i64 1, .int .i64 7, .agg #[.int .i64 1, .string ⟨#[47, 97]⟩, .string ⟨#[]⟩, .int .i64 1, .int .i64 7, .int .i64 0, .slice none 0 0]] W fun y w' => GetR W.heap.size (some (anP 5)) 0 y w' ∧ Sep w L w' (Cac cb [(edP 1 pa 1 7, anP 5)] 1) Non) := fun L W cb h => s_get (e := edP 1 pa 1 7) h stNon (Nm.nil W) i1 i7 _ _ g1
  have C2 : Hid (∀ L W cb, Sep w L W (Cac cb [(edP 1 pa 1 7, anP 5)] 1) Non → Calls Try.prog 9 #[.pointer (some ⟨cb, 0, none⟩), .int .i64 1, .int .i64 7, .agg #[.int .i64 1, .string ⟨#[47, 98]⟩, .string ⟨#[]⟩, .int .i64 1, .int .i64 7, .int .i64 0, .slice none 0 0]] W fun y w' => GetR W.heap.size none 14 y w' ∧ Sep w L w' (Cac cb [(edP 1 pa 1 7, anP 5)] 1) Non) := fun L W cb h => s_get (e := edP 1 pb 1 7) h stNon (Nm.nil W) i1 i7 _ _ g2
  have C3 : Hid (∀ L W cb, Sep w L W (Cac cb [(edP 1 pa 1 7, anP 5)] 1) Non → Calls Try.prog 9 #[.pointer (some ⟨cb, 0, none⟩), .int .i64 1, .int .i64 8, .agg #[.int .i64 1, .string ⟨#[47, 97]⟩, .string ⟨#[]⟩, .int .i64 1, .int .i64 7, .int .i64 0, .slice none 0 0]] W fun y w' => GetR W.heap.size none 0 y w' ∧ Sep w L w' (Cac cb [(edP 1 pa 1 7, anP 5)] 1) Non) := fun L W cb h => s_get (e := edP 1 pa 1 7) h stNon (Nm.nil W) i1 i8 _ _ g3
  clear hE hne g1 g2 g3 hp i1 i7 i8
  go_enter Try.func4, Try.ntmps4
  go_wp2_with fail
  refine (s_new (Below.refl _ w)).mono ?_
  rintro y w1 ⟨rfl, h⟩
  have H2 : Hid (Sep w [(w1.heap.size + 1, [.int .i64 1, .string ⟨#[47, 98]⟩, .string ⟨#[]⟩, .int .i64 1, .int .i64 7, .int .i64 0, .slice none 0 0]), (w1.heap.size, [.int .i64 1, .string ⟨#[47, 97]⟩, .string ⟨#[]⟩, .int .i64 1, .int .i64 7, .int .i64 0, .slice none 0 0])] ((w1.alloc (.cells #[.int .i64 1, .string ⟨#[47, 97]⟩, .string ⟨#[]⟩, .int .i64 1, .int .i64 7, .int .i64 0, .slice none 0 0] 32)).alloc (.cells #[.int .i64 1, .string ⟨#[47, 98]⟩, .string ⟨#[]⟩, .int .i64 1, .int .i64 7, .int .i64 0, .slice none 0 0] 32)) (Cac (w.heap.size + 1) [] 0) Non) := by
    have h1 := (h.box (stCac _ _ _) stNon [.int .i64 1, .string ⟨#[47, 97]⟩, .string ⟨#[]⟩, .int .i64 1, .int .i64 7, .int .i64 0, .slice none 0 0] 32).box (stCac _ _ _) stNon [.int .i64 1, .string ⟨#[47, 98]⟩, .string ⟨#[]⟩, .int .i64 1, .int .i64 7, .int .i64 0, .slice none 0 0] 32
    rw [show (w1.alloc (.cells [.int .i64 1, .string ⟨#[47, 97]⟩, .string ⟨#[]⟩, .int .i64 1, .int .i64 7, .int .i64 0, .slice none 0 0].toArray 32)).heap.size = w1.heap.size + 1 by simp] at h1
    exact h1
  clear h
  go_wp2_with fail
  refine (CP.out _ _ _ H2.out).mono ?_
  rintro y w3 ⟨rfl, h⟩
  have KE := h.cells (b := w1.heap.size) (vs := [.int .i64 1, .string ⟨#[47, 97]⟩, .string ⟨#[]⟩, .int .i64 1, .int .i64 7, .int .i64 0, .slice none 0 0]) (by simp)
  have e0 := KE.val 0 _ rfl
  have e1 := KE.val 1 _ rfl
  have e2 := KE.val 2 _ rfl
  have e3 := KE.val 3 _ rfl
  have e4 := KE.val 4 _ rfl
  have e5 := KE.val 5 _ rfl
  have e6 := KE.val 6 _ rfl
  have H3 : Hid _ := h
  clear h KE CP H2
  go_wp2_with fail
  refine (C1.out _ _ _ H3.out).mono ?_
  rintro y w4 ⟨⟨s, ga, gb, rfl, -⟩, h⟩
  unfold anV anP
  simp only [Option.getD_some, Option.isSome_some]
  have KF := h.cells (b := w1.heap.size + 1) (vs := [.int .i64 1, .string ⟨#[47, 98]⟩, .string ⟨#[]⟩, .int .i64 1, .int .i64 7, .int .i64 0, .slice none 0 0]) (by simp)
  have H4 : Hid _ := h.box (stCac _ _ _) stNon [.int .i64 0, .int .i64 0, .int .i64 0, .int .i64 0, .slice s.a1 0 s.c1, .string ⟨#[]⟩, .bool false, .int .i64 0, .slice s.a2 0 s.c2, .int .i64 0, .int .i64 5] 41
  have KF1 := KF.below (bel_al w4 (.cells #[.int .i64 0, .int .i64 0, .int .i64 0, .int .i64 0, .slice s.a1 0 s.c1, .string ⟨#[]⟩, .bool false, .int .i64 0, .slice s.a2 0 s.c2, .int .i64 0, .int .i64 5] 41))
  have f0 := KF1.val 0 _ rfl
  have f1 := KF1.val 1 _ rfl
  have f2 := KF1.val 2 _ rfl
  have f3 := KF1.val 3 _ rfl
  have f4 := KF1.val 4 _ rfl
  have f5 := KF1.val 5 _ rfl
  have f6 := KF1.val 6 _ rfl
  clear h KF KF1 C1 H3 e0 e1 e2 e3 e4 e5 e6
  go_wp2_with fail
  refine (C2.out _ _ _ H4.out).mono ?_
  rintro y w5 ⟨⟨s5, ga5, gb5, rfl, -⟩, h⟩
  unfold anV zeroA
  simp only [Option.getD_none, Option.isSome_none]
  have H5 : Hid _ := h.box (stCac _ _ _) stNon [.int .i64 0, .int .i64 0, .int .i64 0, .int .i64 0, .slice s5.a1 0 s5.c1, .string ⟨#[]⟩, .bool false, .int .i64 0, .slice s5.a2 0 s5.c2, .int .i64 0, .int .i64 0] 41
  have KE := H5.out.cells (b := w1.heap.size) (vs := [.int .i64 1, .string ⟨#[47, 97]⟩, .string ⟨#[]⟩, .int .i64 1, .int .i64 7, .int .i64 0, .slice none 0 0]) (by simp)
  have e0 := KE.val 0 _ rfl
  have e1 := KE.val 1 _ rfl
  have e2 := KE.val 2 _ rfl
  have e3 := KE.val 3 _ rfl
  have e4 := KE.val 4 _ rfl
  have e5 := KE.val 5 _ rfl
  have e6 := KE.val 6 _ rfl
  clear h KE C2 H4 f0 f1 f2 f3 f4 f5 f6
  go_wp2_with fail
  refine (C3.out _ _ _ H5.out).mono ?_
  rintro y w6 ⟨⟨s6, ga6, gb6, rfl, -⟩, h⟩
  unfold anV zeroA
  simp only [Option.getD_none, Option.isSome_none]
  have H6 : Hid _ := h.box (stCac _ _ _) stNon [.int .i64 0, .int .i64 0, .int .i64 0, .int .i64 0, .slice s6.a1 0 s6.c1, .string ⟨#[]⟩, .bool false, .int .i64 0, .slice s6.a2 0 s6.c2, .int .i64 0, .int .i64 0] 41
  have KA := H6.out.cells (b := w4.heap.size) (vs := [.int .i64 0, .int .i64 0, .int .i64 0, .int .i64 0, .slice s.a1 0 s.c1, .string ⟨#[]⟩, .bool false, .int .i64 0, .slice s.a2 0 s.c2, .int .i64 0, .int .i64 5]) (by simp)
  have k10 := KA.val 10 _ rfl
  clear h KA C3 H5 e0 e1 e2 e3 e4 e5 e6
  go_wp2_with (go_at_call 14; refine (s_len H6.out 1 rfl).mono ?_; rintro y w7 ⟨rfl, rfl⟩)
  go_ret
  exact ⟨rfl, H6.out.bel⟩

end Go.Proofs.Ythogpaojdlfjcaa.Rty
