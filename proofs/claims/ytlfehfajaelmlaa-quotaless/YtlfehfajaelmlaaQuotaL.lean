/- The contracts of tabulariumlaw08.texts (where both are the same), base, examples. -/
import Derived.Test.YtlfehfajaelmlaaQuotaF5
import Derived.Test.YtlfehfajaelmlaaQuotaEx
namespace Go.Proofs.Ytlfehfajaelmlaa
open Go.RowKit

set_option maxRecDepth 100000 in
set_option maxHeartbeats 1000000 in
theorem texts_same (a a' : Option Addr) (b off cap b' off' cap' n : Nat) (ss : List ByteArray) (w : World) (hS : Strs w a b off ss) (hS' : Strs w a' b' off' ss) (hn : ss.length = n) :
    Calls Try.prog 9 #[.slice a n cap, .slice a' n cap'] w fun e w' => e = .returned (.bool true) ∧ Below w.heap.size w w' := by
  subst hn
  have hm := hS.len
  unfold maxLen at hm
  go_enter Try.func9, Try.ntmps9
  go_wp2
  go_loopw [5] (fun c wr => ∃ k n : Nat, k ≤ ss.length ∧ c = .int .i64 k ∧ wr = w.drewN n) (fun c _ => ss.length - (intOf c).toNat)
  case atStart => exact ⟨0, 0, by omega, rfl, rfl⟩
  case round =>
    obtain ⟨k, n, hk, rfl, rfl⟩ := hrel
    by_cases hlt : k < ss.length
    · obtain rfl := hS.addr (by omega)
      obtain rfl := hS'.addr (by omega)
      have hc1 : ∀ m, (w.drewN m).cell? ⟨b, off + k, none⟩ = some (.string ss[k]) := fun _ => hS.cell k hlt
      have hc2 : ∀ m, (w.drewN m).cell? ⟨b', off' + k, none⟩ = some (.string ss[k]) := fun _ => hS'.cell k hlt
      have hlt' : (k : Int) < (ss.length : Int) := by omega
      clear hS hS'
      go_wp2
      refine wp_region_quiet_lit (by kernel_rfl) (by kernel_rfl) ?_
      repeat (first | go_big_quiet_step (fail) | quiet_step (fail))
      refine wpQuiet_nil ?_
      rintro _ ⟨nq, rfl⟩
      go_wp2
      go_roundw
      case rel => exact ⟨k + 1, n + nq, by omega, by go_num, by simp [World.drewN]⟩
      case measure => simp [intOf]; omega
    · go_wp2
      go_ret
      exact ⟨rfl, bel_drewN _ _⟩

def noS : RS := ⟨none, 0, 0⟩
theorem noS_ok (w : World) (x : Nd) (hx : x.bs = []) (hs : x.path.size ≤ maxLen) : NdOk w (x, noS) := ⟨hs, by rw [hx]; rfl, Nat.zero_le _, fun _ => rfl, fun hp => absurd hp (Nat.lt_irrefl 0)⟩

/-- A list of nodes that is written out. -/
theorem nl_lit (w : World) (ps : List NR) (t : TypeId) (hl : ps.length ≤ 1000) (hok : ∀ x ∈ ps, NdOk w x) (xs : NS) (hx : ps.map (·.1) = xs) (n : Nat) (hn : xs.length = n) : NL (w.alloc (.cells (rowC ndC ps).toArray t)) (some ⟨w.heap.size, 0, none⟩) n xs := by
  refine ⟨w.heap.size, 0, ps, hx, hn, fun _ => rfl, by unfold maxLen; omega, fun j hj i v hv => ?_, fun x hx => (hok x hx).below (bel_al _ _)⟩
  have e := World.cell?_alloc_new w (rowC ndC ps).toArray t (0 + j * 5 + i)
  rw [e, List.getElem?_toArray, Nat.zero_add]
  have hi : i < 5 := by have := (List.getElem?_eq_some_iff.1 hv).1; rwa [wideX.len] at this
  rw [rowC_at wideX ps j hj i hi]; exact hv

theorem lits_ok (w : World) (ps : List NR) (h : ∀ x ∈ ps, x.2 = noS ∧ x.1.bs = [] ∧ x.1.path.size ≤ 100) : ∀ x ∈ ps, NdOk w x := fun x hx => by
  obtain ⟨h1, h2, h3⟩ := h x hx
  obtain ⟨x1, x2⟩ := x
  simp only at h1
  subst h1
  exact noS_ok w x1 h2 (lit_le _ h3)

structure BaseR (e : Ending) (w' : World) : Prop where
  ex : ∃ b, e = .returned (.slice (some ⟨b, 0, none⟩) 3 3) ∧ NL w' (some ⟨b, 0, none⟩) 3 base8

set_option maxRecDepth 100000 in
set_option maxHeartbeats 1000000 in
theorem base_val (w : World) : Calls Try.prog 20 #[] w fun e w' => BaseR e w' ∧ Below w.heap.size w w' := by
  have HN : Hid (∀ (W : World) (t : TypeId), NL (W.alloc (.cells (rowC ndC [(dirN rootP, noS), (dirQ pA 3, noS), (fileN pAX, noS)]).toArray t)) (some ⟨W.heap.size, 0, none⟩) 3 base8) := fun W t =>
    nl_lit W [(dirN rootP, noS), (dirQ pA 3, noS), (fileN pAX, noS)] t (by decide) (lits_ok W _ (fun x hx => by
      simp only [List.mem_cons, List.not_mem_nil, or_false] at hx
      rcases hx with rfl | rfl | rfl <;> exact ⟨rfl, rfl, by decide⟩)) base8 rfl 3 rfl
  go_enter Try.func20, Try.ntmps20
  go_wp2
  go_ret
  exact ⟨⟨_, rfl, HN.out _ _⟩, bel_al _ _⟩

set_option maxRecDepth 100000 in
set_option maxHeartbeats 2000000 in
theorem examples_val (w : World) : Calls Try.prog 8 #[] w fun e w' => e = .returned (.bool true) ∧ Below w.heap.size w w' := by
  go_enter Try.func8, Try.ntmps8
  go_wp2_with fail
  refine (base_val _).mono ?_
  rintro e v1 ⟨⟨b1, rfl, hL1⟩, c1⟩
  have HL1 : Hid _ := hL1
  clear hL1
  go_wp2_with fail
  refine (count_val HL1.out true ⟨fun _ => right8, fun _ => rfl⟩ pA (lit_le _ (by decide)) 2 (by unfold countN; exact cA)).mono ?_
  rintro e t1 ⟨rfl, d1⟩
  have HC1 : Hid (Below w.heap.size w t1) := bel_tr (Below.refl _ _) (bel_tr c1 d1)
  clear c1 d1 HL1
  go_wp2_with fail
  refine (base_val _).mono ?_
  rintro e v2 ⟨⟨b2, rfl, hL2⟩, c2⟩
  have HL2 : Hid _ := hL2
  clear hL2
  go_wp2_with fail
  refine (room_val HL2.out true ⟨fun _ => right8, fun _ => rfl⟩ pA (lit_le _ (by decide)) 1 (by unfold rooms; exact rA)).mono ?_
  rintro e t2 ⟨rfl, d2⟩
  have HC2 : Hid (Below w.heap.size w t2) := bel_tr (HC1.out) (bel_tr c2 d2)
  clear c2 d2 HL2 HC1
  go_wp2_with fail
  refine (base_val _).mono ?_
  rintro e v3 ⟨⟨b3, rfl, hL3⟩, c3⟩
  have HL3 : Hid _ := hL3
  clear hL3
  go_wp2_with fail
  refine (count_val HL3.out true ⟨fun _ => right8, fun _ => rfl⟩ rootP (lit_le _ (by decide)) 3 (by unfold countN; exact cR)).mono ?_
  rintro e t3 ⟨rfl, d3⟩
  have HC3 : Hid (Below w.heap.size w t3) := bel_tr (HC2.out) (bel_tr c3 d3)
  clear c3 d3 HL3 HC2
  go_wp2_with fail
  refine (base_val _).mono ?_
  rintro e v4 ⟨⟨b4, rfl, hL4⟩, c4⟩
  have HL4 : Hid _ := hL4
  clear hL4
  go_wp2_with fail
  refine (room_val HL4.out true ⟨fun _ => right8, fun _ => rfl⟩ rootP (lit_le _ (by decide)) 57 (by unfold rooms; exact rR)).mono ?_
  rintro e t4 ⟨rfl, d4⟩
  have HC4 : Hid (Below w.heap.size w t4) := bel_tr (HC3.out) (bel_tr c4 d4)
  clear c4 d4 HL4 HC3
  go_wp2_with fail
  refine (base_val _).mono ?_
  rintro e v5 ⟨⟨b5, rfl, hL5⟩, c5⟩
  have HL5 : Hid _ := hL5
  clear hL5
  go_wp2_with fail
  refine (over_val HL5.out true ⟨fun _ => right8, fun _ => rfl⟩ [] (by unfold overs; exact oE) 0 rfl).mono ?_
  rintro e t5 ⟨⟨oa, oc, og, rfl, hO⟩, d5⟩
  clear hO
  have HC5 : Hid (Below w.heap.size w t5) := bel_tr (HC4.out) (bel_tr c5 d5)
  clear c5 d5 HL5 HC4
  go_wp2
  go_ret
  exact ⟨rfl, HC5.out⟩

end Go.Proofs.Ytlfehfajaelmlaa
