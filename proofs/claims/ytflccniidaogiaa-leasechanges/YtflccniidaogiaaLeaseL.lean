/- The contracts of tabulariumlaw09.numbers, leases, examples. -/
import Derived.Test.YtflccniidaogiaaLeaseF7
namespace Go.Proofs.Ytflccniidaogiaa.Lea
open Go.RowKit Go.Proofs.Ytflccniidaogiaa

set_option maxRecDepth 100000 in
set_option maxHeartbeats 1000000 in
theorem leases_val {a a2 : Option Addr} {n c c2 : Nat} {xs : LS} {w : World} (h1 : LL w a n c xs) (h2 : LL w a2 n c2 xs) :
    Calls Try.prog 17 #[.slice a n c, .slice a2 n c2] w fun e w' => e = .returned (.bool true) ∧ Below w.heap.size w w' := by
  have HN : Hid (xs.length = n) := h1.len
  have hlid := h1.lid
  have hroom := h1.room
  unfold maxLen at hlid
  have hn : n ≤ 9223372036854775807 := by omega
  have H1 : Hid _ := h1
  have H2 : Hid _ := h2
  clear h1 h2 hlid hroom
  go_enter Try.func17, Try.ntmps17
  go_wp2
  go_loopw [5] (fun v wr => ∃ i : Nat, i ≤ n ∧ v = .int .i64 i ∧ Below w.heap.size w wr) (fun v _ => n - (intOf v).toNat)
  case atStart => exact ⟨0, by omega, rfl, Below.refl _ _⟩
  case round =>
    obtain ⟨i, hi, rfl, hb⟩ := hrel
    have HB : Hid (Below w.heap.size w wr) := hb
    by_cases hlt : i < n
    · have e1 : i < xs.length := by rw [HN.out]; exact hlt
      obtain ⟨b, off, rfl, k1⟩ := (H1.out.below hb).at (by omega)
      obtain ⟨b2, off2, rfl, k2⟩ := (H2.out.below hb).at (by omega)
      obtain ⟨q1, q2⟩ := k1 i e1
      obtain ⟨q3, q4⟩ := k2 i e1
      clear hb k1 k2
      generalize xs[i] = x at *
      obtain ⟨cc, uu⟩ := x
      simp only at q1 q2 q3 q4
      go_wp2
      go_quiet (fail)
      go_wp2
      go_roundw
      case rel => exact ⟨i + 1, by omega, by go_num, bel_tr HB.out (below_drewN (Below.refl _ _) _)⟩
      case measure => simp [intOf]; omega
    · obtain rfl : i = n := by omega
      have hgd : decide ((i : Int) < (i : Int)) = false := decide_eq_false (by omega)
      clear hb hlt
      go_wp2
      go_ret
      exact ⟨rfl, HB.out⟩

set_option maxRecDepth 100000 in
set_option maxHeartbeats 1000000 in
theorem numbers_val {a a2 : Option Addr} {n b c b2 c2 : Nat} {zs : List Int} {w : World} (hn : zs.length = n) (hn4 : n ≤ 4) (h1 : Ints w .i64 a b 0 zs) (h2 : Ints w .i64 a2 b2 0 zs) :
    Calls Try.prog 12 #[.slice a n c, .slice a2 n c2] w fun e w' => e = .returned (.bool true) ∧ Below w.heap.size w w' := by
  have HN : Hid (zs.length = n) := hn
  have H1 : Hid _ := h1
  have H2 : Hid _ := h2
  clear h1 h2 hn
  go_enter Try.func12, Try.ntmps12
  go_wp2
  go_loopw [5] (fun v wr => ∃ i : Nat, i ≤ n ∧ v = .int .i64 i ∧ Below w.heap.size w wr) (fun v _ => n - (intOf v).toNat)
  case atStart => exact ⟨0, by omega, rfl, Below.refl _ _⟩
  case round =>
    obtain ⟨i, hi, rfl, hb⟩ := hrel
    have HB : Hid (Below w.heap.size w wr) := hb
    by_cases hlt : i < n
    · have e1 : i < zs.length := by rw [HN.out]; exact hlt
      have k1 := H1.out.below hb
      have k2 := H2.out.below hb
      obtain rfl := k1.addr (by omega)
      obtain rfl := k2.addr (by omega)
      have q1 := k1.cell i e1
      have q2 := k2.cell i e1
      rw [Nat.zero_add] at q1 q2
      clear hb k1 k2
      generalize zs[i] = z at *
      go_wp2
      go_quiet (fail)
      go_wp2
      go_roundw
      case rel => exact ⟨i + 1, by omega, by go_num, bel_tr HB.out (below_drewN (Below.refl _ _) _)⟩
      case measure => simp [intOf]; omega
    · obtain rfl : i = n := by omega
      have hgd : decide ((i : Int) < (i : Int)) = false := decide_eq_false (by omega)
      clear hb hlt
      go_wp2
      go_ret
      exact ⟨rfl, HB.out⟩

theorem rt_ex : Rt [⟨2, 15⟩] := ⟨fun x hx => by rw [List.mem_singleton.1 hx]; decide, List.pairwise_singleton _ _⟩
theorem ren_ex : renX [] 2 5 = ([⟨2, 15⟩], true) := by
  rw [renX_yes Rt.nil (by omega) (by omega) (by omega)]
  rfl
theorem late_ex1 : lateX [⟨2, 15⟩] 15 = ([], true) := by rw [lateX_yes rt_ex]; rfl
theorem late_ex2 : lateX [⟨2, 15⟩] 16 = ([2], true) := by rw [lateX_yes rt_ex]; rfl

theorem ll_new (w : World) (x : Ls) : LL (w.alloc (.cells #[.int .i64 x.c, .int .i64 x.u] 41)) (some ⟨w.heap.size, 0, none⟩) 1 1 [x] := by
  refine ⟨rfl, fun e => (by cases e), Nat.le_refl _, by unfold maxLen; omega, fun _ => ⟨w.heap.size, 0, rfl, fun j hj i v hv => ?_⟩⟩
  obtain rfl : j = 0 := by simpa using hj
  rw [show 0 + 0 * 2 + i = i by omega]
  refine (World.cell?_alloc_new w #[.int .i64 x.c, .int .i64 x.u] 41 i).trans ?_
  show (List.toArray (lsC x))[i]? = some v
  rw [List.getElem?_toArray]; exact hv

set_option maxRecDepth 100000 in
set_option maxHeartbeats 1000000 in
theorem examples_val (w : World) : Calls Try.prog 7 #[] w fun e w' => e = .returned (.bool true) ∧ Below w.heap.size w w' := by
  have CN : Hid (∀ W, Calls Try.prog 15 #[.slice none 0 0, .int .i64 2, .int .i64 5] W fun e w' => LsR W.heap.size [⟨2, 15⟩] 1 (errV true) e w' ∧ Below W.heap.size W w') := fun W => renew_val (LL.zero W none 0 (fun _ => rfl) (Nat.zero_le _)) 2 5 _ _ 1 ren_ex rfl
  have CL1 : Hid (∀ W a c, LL W a 1 c [⟨2, 15⟩] → Calls Try.prog 10 #[.slice a 1 c, .int .i64 15] W fun e w' => NumR [] 0 (errV true) e w' ∧ Below W.heap.size W w') := fun W a c h => late_val h 15 _ _ 0 late_ex1 rfl
  have CL2 : Hid (∀ W a c, LL W a 1 c [⟨2, 15⟩] → Calls Try.prog 10 #[.slice a 1 c, .int .i64 16] W fun e w' => NumR [2] 1 (errV true) e w' ∧ Below W.heap.size W w') := fun W a c h => late_val h 16 _ _ 1 late_ex2 rfl
  have CR : Hid (∀ W a c, LL W a 1 c [⟨2, 15⟩] → Calls Try.prog 13 #[.slice a 1 c] W fun e w' => e = .returned (.bool true) ∧ Below W.heap.size W w') := fun W a c h => right_val h true ⟨fun _ => rt_ex, fun _ => rfl⟩
  unfold errV at *
  simp only [if_true] at CN CL1 CL2
  have M1 : Hid True := trivial
  go_enter Try.func7, Try.ntmps7
  go_wp2_with (first
    | (go_at_call 15; refine (CN.out _).mono ?_; rintro e w1 ⟨⟨a1, c1, g1, rfl, hO1⟩, b1⟩; have HL1 : Hid (LL w1 a1 1 c1 [⟨2, 15⟩]) := hO1.ll; have B1 : Hid (Below w.heap.size w w1) := b1; clear hO1 b1)
    | (go_at_call 10; have m := M1.out; refine (CL1.out _ _ _ HL1.out).mono ?_; rintro e w2 ⟨⟨a2, b2, c2, rfl, hn2, hI2⟩, bb2⟩; have HL2 : Hid (LL w2 a1 1 c1 [⟨2, 15⟩]) := HL1.out.below bb2; have B2 : Hid (Below w.heap.size w w2) := bel_tr B1.out bb2; clear hn2 hI2 bb2 m M1)
    | (go_at_call 10; refine (CL2.out _ _ _ HL2.out).mono ?_; rintro e w3 ⟨⟨a3, b3, c3, rfl, hn3, hI3⟩, bb3⟩; have HL3 : Hid (LL w3 a1 1 c1 [⟨2, 15⟩]) := HL2.out.below bb3; have B3 : Hid (Below w.heap.size w w3) := bel_tr B2.out bb3; clear hn3 hI3 bb3)
    | (go_at_call 17; refine (leases_val (HL3.out.below (bel_al _ _)) (ll_new w3 ⟨2, 15⟩)).mono ?_; rintro e w4 ⟨rfl, bb4⟩; have HL4 : Hid (LL w4 a1 1 c1 [⟨2, 15⟩]) := HL3.out.below (bel_tr (bel_al _ _) bb4); have B4 : Hid (Below w.heap.size w w4) := bel_tr B3.out (bel_tr (bel_al _ _) bb4); clear bb4)
    | (go_at_call 13; refine (CR.out _ _ _ HL4.out).mono ?_; rintro e w5 ⟨rfl, bb5⟩; have B5 : Hid (Below w.heap.size w w5) := bel_tr B4.out bb5; clear bb5))
  go_ret
  exact ⟨rfl, B5.out⟩

end Go.Proofs.Ytflccniidaogiaa.Lea
