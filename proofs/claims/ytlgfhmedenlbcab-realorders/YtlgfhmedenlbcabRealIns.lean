/- The contract of slices.insertionSortCmpFunc, by real.Order. -/
import Derived.Test.YtlgfhmedenlbcabRealSwap
namespace Go.Proofs.Ytlgfhmedenlbcab
open Go.RowKit

/-- real.Order, as a value. -/
def ordF : Value := .func (.func 9) #[] #[]
theorem mem_at0 {xs : List Nat} {j : Nat} (h : j < xs.length) : at0 xs j ∈ xs := by rw [at0_eq _ _ h]; exact List.getElem_mem h
theorem lt_of_perm {xs ys : List Nat} (p : ys.Perm xs) (h : ∀ x ∈ xs, x < 18446744073709551616) : ∀ x ∈ ys, x < 18446744073709551616 := fun x hx => h x (p.mem_iff.1 hx)
theorem cmp_lt0 {x y : Int} (h : x < y) : cmpZ x y = -1 := by unfold cmpZ; rw [if_pos h]
theorem cmp_nlt {x y : Int} (h : ¬ x < y) : ∃ c : Nat, cmpZ x y = (c : Int) := by
  unfold cmpZ; rw [if_neg h]
  by_cases k : y < x
  · rw [if_pos k]; exact ⟨1, rfl⟩
  · rw [if_neg k]; exact ⟨0, rfl⟩

set_option maxRecDepth 100000 in
set_option maxHeartbeats 2000000 in
theorem insertion_val (base g cap n a b : Nat) (xs : List Nat) (w : World) (hn : xs.length = n) (hl : n ≤ 1000) (hR : RowF base w g xs) (hx : ∀ x ∈ xs, x < 18446744073709551616) (hab : a ≤ b) (hb : b ≤ n) :
    Calls Try.prog 28 #[.slice (some ⟨g, 0, none⟩) n cap, .int .i64 a, .int .i64 b, ordF] w fun e w' => e = .returned (.tuple #[]) ∧ ∃ ys, InsF a b b xs ys ∧ RowF base w' g ys ∧ Below base w w' := by
  have HN : Hid _ := hn
  have HR : Hid _ := hR
  have HX : Hid _ := hx
  clear hn hR hx
  unfold ordF
  go_enter Try.func28, Try.ntmps28
  go_wp2
  go_loopw [8] (fun v wr => ∃ (i : Nat) (ys : List Nat), a + 1 ≤ i ∧ v = .int .i64 i ∧ InsF a (min i b) b xs ys ∧ RowF base wr g ys ∧ Below base w wr) (fun v _ => b - (intOf v).toNat)
  case atStart => exact ⟨a + 1, xs, by omega, by go_num, ⟨Moved.refl _ _ _, fun i j h1 h2 h3 => by rw [show i = j by omega]; exact Int.le_refl _⟩, HR.out, (Below.refl _ _).mono HR.out.lo⟩
  case round =>
    obtain ⟨i, ys, hi, rfl, hins, hrow, hbel⟩ := hrel
    rename World => wo
    have HI : Hid _ := hins
    have HRow : Hid _ := hrow
    have HBel : Hid _ := hbel
    clear hins hrow hbel HR
    by_cases hlt : i < b
    · go_wp2
      go_loopw [9] (fun v wr => ∃ (j : Nat) (cur : List Nat), a ≤ j ∧ j ≤ i ∧ v = .int .i64 j ∧ ShiftR j i ys cur ∧ (∀ t, j ≤ t → t < i → key (at0 ys i) < key (at0 ys t)) ∧ RowF base wr g cur ∧ Below base w wr) (fun v _ => (intOf v).toNat)
      case atStart => exact ⟨i, ys, by omega, by omega, rfl, ShiftR.start _ _, fun t h1 h2 => by omega, HRow.out, HBel.out⟩
      case round =>
        obtain ⟨j, cur, haj, hji, rfl, hsh, hless, hrow, hbel⟩ := hrel
        have hly : ys.length = n := by rw [HI.out.mv.len, HN.out]
        have hlen : cur.length = n := by rw [hsh.len, hly]
        have hxc := lt_of_perm (hsh.perm.trans HI.out.mv.perm) HX.out
        have hsort : (a = j ∨ a < j ∧ key (at0 ys (j - 1)) ≤ key (at0 ys i)) → InsF a (min (i + 1) b) b xs cur := by
          intro hst
          have hsy : Srt a i ys := by have := HI.out.srt; rwa [show min i b = i by omega] at this
          refine ⟨HI.out.mv.trans ((hsh.moved haj hji).wide (Nat.le_refl _) (by omega)), ?_⟩
          rw [show min (i + 1) b = i + 1 by omega]
          refine hsh.sorted hsy haj hji (fun t h1 h2 => ?_) (fun t h1 h2 => Int.le_of_lt (hless t h1 h2))
          rcases hst with k | ⟨k, k2⟩
          · omega
          · exact Int.le_trans (hsy t (j - 1) h1 (by omega) (by omega)) k2
        have HSort : Hid _ := hsort
        clear hsort
        by_cases hja : a < j
        · have c1 := hrow.cell j (by omega)
          have c2 := hrow.cell (j - 1) (by omega)
          have f1 := hrow.live j (by omega)
          have f2 := hrow.live (j - 1) (by omega)
          have b1 := hxc _ (mem_at0 (show j < cur.length by omega))
          have b2 := hxc _ (mem_at0 (show j - 1 < cur.length by omega))
          have e1 : at0 cur j = at0 ys i := hsh.here
          have e2 : at0 cur (j - 1) = at0 ys (j - 1) := hsh.out _ (by omega)
          obtain ⟨j', rfl⟩ : ∃ j', j = j' + 1 := ⟨j - 1, by omega⟩
          rw [show j' + 1 - 1 = j' by omega] at *
          have hR2 := fun d => (hrow.drew d).swap (j' + 1) j' (by omega) (by omega)
          have hB2 := fun d => (hrow.drew d).swap_below (below_drewN hbel d) (Nat.le_refl _) (j' + 1) j' (.float .f64 (at0 cur j')) (.float .f64 (at0 cur (j' + 1)))
          have hR3 := fun d => hrow.drew d
          have hB3 := fun d => below_drewN hbel d
          have HR2 : Hid _ := hR2
          have HB2 : Hid _ := hB2
          have HR3 : Hid _ := hR3
          have HB3 : Hid _ := hB3
          have HSh : Hid _ := hsh
          have HLess : Hid _ := hless
          have HE1 : Hid _ := e1
          have HE2 : Hid _ := e2
          have HLy : Hid _ := hly
          clear hR2 hB2 hR3 hB3 hsh hless e1 e2 hrow hbel hlen hxc hly
          by_cases hk : key (at0 cur (j' + 1)) < key (at0 cur j')
          · have C : Hid _ := fun w => order_val (at0 cur (j' + 1)) (at0 cur j') (-1) w b1 b2 (cmp_lt0 hk)
            have HK : Hid _ := hk
            clear hk b1 b2
            generalize hx1 : at0 cur (j' + 1) = x1 at *
            generalize hx2 : at0 cur j' = x2 at *
            have hg : decide ((a : Int) < (j' : Int) + 1) = true := decide_eq_true (by omega)
            go_wp2
            go_quiet ((go_at_call 9; exact Calls.quiet_of_same (C.out _)))
            clear C
            have hst := run_store_flt
            go_wp2
            go_region
            go_wp2
            go_roundw
            case rel => exact ⟨j', _, by omega, by omega, by go_num, HSh.out.next (by omega) (by rw [HLy.out]; omega), fun t h1 h2 => by
              by_cases e : t = j'
              · subst e; have := HK.out; rw [HE1.out, HE2.out] at this; exact this
              · exact HLess.out t (by omega) h2, HR2.out _, HB2.out _⟩
            case measure => simp [intOf]
          · obtain ⟨z, hz⟩ := cmp_nlt hk
            have C : Hid _ := fun w => order_val (at0 cur (j' + 1)) (at0 cur j') (z : Int) w b1 b2 hz
            have HK : Hid _ := hk
            clear hk b1 b2 hz
            generalize hx1 : at0 cur (j' + 1) = x1 at *
            generalize hx2 : at0 cur j' = x2 at *
            have hg : decide ((a : Int) < (j' : Int) + 1) = true := decide_eq_true (by omega)
            go_wp2
            go_quiet ((go_at_call 9; exact Calls.quiet_of_same (C.out _)))
            clear C
            have HS2 := HSort.out (.inr ⟨by omega, by have := HK.out; rw [HE1.out, HE2.out] at this; exact Int.not_lt.1 this⟩)
            clear HSort
            go_wp2
            go_roundw
            case rel => exact ⟨i + 1, cur, by omega, by go_num, HS2, HR3.out _, HB3.out _⟩
            case measure => simp [intOf]; omega
        · have hg : decide ((a : Int) < (j : Int)) = false := decide_eq_false (by omega)
          have HS2 := HSort.out (.inl (by omega))
          have hR3 := fun d => hrow.drew d
          have hB3 := fun d => below_drewN hbel d
          have HR3 : Hid _ := hR3
          have HB3 : Hid _ := hB3
          clear HSort hsh hless hrow hbel hlen hxc hly hR3 hB3
          go_wp2
          go_quiet (fail)
          go_wp2
          go_roundw
          case rel => exact ⟨i + 1, cur, by omega, by go_num, HS2, HR3.out _, HB3.out _⟩
          case measure => simp [intOf]; omega
    · clear HN HX
      go_wp2
      go_end0
      have := HI.out
      rw [show min i b = b by omega] at this
      exact ⟨rfl, ys, this, HRow.out, HBel.out⟩

end Go.Proofs.Ytlgfhmedenlbcab
