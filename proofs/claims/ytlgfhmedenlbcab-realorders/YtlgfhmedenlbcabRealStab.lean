/- The contract of slices.stableCmpFunc, by real.Order. -/
import Derived.Test.YtlgfhmedenlbcabRealSymC
import Derived.Test.YtlgfhmedenlbcabRealStabM
namespace Go.Proofs.Ytlgfhmedenlbcab
open Go.RowKit

theorem sym_all (base g cap n : Nat) (hl : n ≤ 1000) : ∀ (N a m b : Nat), b - a < N → a < m → m < b → b ≤ n → SymDoes base g cap n a m b := by
  intro N
  induction N with
  | zero => intro a m b h; omega
  | succ N ih =>
    intro a m b h1 h2 h3 h4 A M B xs w hA hM hB hn hR hx s1 s2
    subst hA hM hB
    by_cases e1 : m = a + 1
    · exact symA_val base g cap n a m b xs w hn hl hR hx e1 h3 h4 s2
    · by_cases e2 : b = m + 1
      · exact symB_val base g cap n a m b xs w hn hl hR hx (by omega) e2 h4 s1
      · exact symC_val base g cap n a m b xs w hn hl hR hx (by omega) (by omega) h4 s1 s2 (fun a' m' b' k1 k2 k3 k4 => ih a' m' b' (by omega) k2 k3 k4)

theorem insertion_at (base g cap n a b : Nat) (A B : Int) (xs : List Nat) (w : World) (hA : A = a) (hB : B = b) (hn : xs.length = n) (hl : n ≤ 1000) (hR : RowF base w g xs) (hx : ∀ x ∈ xs, x < 18446744073709551616) (hab : a ≤ b) (hb : b ≤ n) :
    Calls Try.prog 28 #[.slice (some ⟨g, 0, none⟩) n cap, .int .i64 A, .int .i64 B, .func (.func 9) #[] #[]] w fun e w' => e = .returned (.tuple #[]) ∧ ∃ ys, InsF a b b xs ys ∧ RowF base w' g ys ∧ Below base w w' := by
  subst hA hB; exact insertion_val base g cap n a b xs w hn hl hR hx hab hb

/-- A row on its way to its order: what was there, in memory. -/
structure Way (base : Nat) (w0 wr : World) (g : Nat) (xs cur : List Nat) : Prop where
  perm : cur.Perm xs
  row : RowF base wr g cur
  bel : Below base w0 wr
theorem Way.next {base : Nat} {w0 wr w2 : World} {g a i b : Nat} {xs cur ys : List Nat} (h : Way base w0 wr g xs cur) (k : InsF a i b cur ys) (r : RowF base w2 g ys) (bl : Below base wr w2) : Way base w0 w2 g xs ys := ⟨k.mv.perm.trans h.perm, r, h.bel.trans bl⟩

set_option maxRecDepth 100000 in
set_option maxHeartbeats 4000000 in
theorem stable_val (base g cap n : Nat) (xs : List Nat) (w : World) (hn : xs.length = n) (hl : n ≤ 1000) (hR : RowF base w g xs) (hx : ∀ x ∈ xs, x < 18446744073709551616) :
    Calls Try.prog 26 #[.slice (some ⟨g, 0, none⟩) n cap, .int .i64 n, .func (.func 9) #[] #[]] w fun e w' => e = .returned (.tuple #[]) ∧ ∃ ys, Srt 0 n ys ∧ Way base w w' g xs ys := by
  have hway : Way base w w g xs xs := ⟨List.Perm.refl _, hR, (Below.refl _ _).mono (Nat.le_trans hR.lo (Nat.le_of_lt hR.hi))⟩
  have HN : Hid _ := hn
  have HX : Hid _ := hx
  have HW : Hid _ := hway
  clear hn hR hx hway
  go_enter Try.func26, Try.ntmps26
  go_wp2
  go_loopw [7, 8] (fun v u wr => ∃ (A : Nat) (cur : List Nat), v = .int .i64 A ∧ u = .int .i64 ((A : Int) + 20) ∧ A ≤ n ∧ Bk1 20 A cur ∧ Way base w wr g xs cur) (fun v _ _ => n - (intOf v).toNat)
  case atStart => exact ⟨0, xs, rfl, rfl, by omega, Bk1.start _ _, HW.out⟩
  case round =>
    obtain ⟨A, cur, rfl, rfl, hA, hbk, hway⟩ := hrel
    have HBk : Hid _ := hbk
    have HWay : Hid _ := hway
    have HLen : Hid (cur.length = n) := by rw [hway.perm.length_eq]; exact HN.out
    clear hbk hway HW
    by_cases hlt : A + 20 ≤ n
    · go_wp2_with fail
      refine (insertion_at base g cap n A (A + 20) _ _ cur _ (by omega) (by omega) HLen.out hl HWay.out.row (lt_of_perm HWay.out.perm HX.out) (by omega) hlt).mono ?_
      rintro e w2 ⟨rfl, ys, hins, hrow, hbel⟩
      have hB2 := HBk.out.next hins
      have hW2 := HWay.out.next hins hrow hbel
      clear hins hrow hbel HBk HWay HLen
      go_wp2
      go_roundw
      case rel => exact ⟨A + 20, ys, by go_num, by go_num, hlt, hB2, hW2⟩
      case measure => simp [intOf]; omega
    · go_wp2_with fail
      refine (insertion_at base g cap n A n _ _ cur _ (by omega) (by omega) HLen.out hl HWay.out.row (lt_of_perm HWay.out.perm HX.out) (by omega) (Nat.le_refl _)).mono ?_
      rintro e w2 ⟨rfl, ys, hins, hrow, hbel⟩
      have HB2 : Hid _ := HBk.out.done (by omega) hins
      have HW2 : Hid _ := HWay.out.next hins hrow hbel
      clear hins hrow hbel HBk HWay HLen
      clear hlt hA
      go_wp2
      go_loopw [6] (fun v wr => ∃ (bs : Nat) (cur : List Nat), v = .int .i64 bs ∧ 20 ≤ bs ∧ bs ≤ 2000 ∧ Bk bs n cur ∧ Way base w wr g xs cur) (fun v _ => n - (intOf v).toNat)
      case atStart => exact ⟨20, ys, rfl, by omega, by omega, HB2.out, HW2.out⟩
      case round =>
        obtain ⟨bs, cur, rfl, hb1, hb2, hbk, hway⟩ := hrel
        have HBk : Hid _ := hbk
        have HWay : Hid _ := hway
        clear hbk hway HB2 HW2
        by_cases hbn : bs < n
        · rename World => wo
          go_wp2
          go_loopw [7, 8] (fun v u wr => ∃ (A : Nat) (cur : List Nat), v = .int .i64 A ∧ u = .int .i64 ((A : Int) + 2 * (bs : Int)) ∧ A ≤ n ∧ Half bs A n cur ∧ Way base w wr g xs cur) (fun v _ _ => n - (intOf v).toNat)
          case atStart => exact ⟨0, cur, rfl, by go_num, by omega, Half.start HBk.out, HWay.out⟩
          case round =>
            clear HBk HWay
            obtain ⟨A, cur, rfl, rfl, hA, hh, hway⟩ := hrel
            have HHf : Hid _ := hh
            have HWay : Hid _ := hway
            have HLen : Hid (cur.length = n) := by rw [hway.perm.length_eq]; exact HN.out
            clear hh hway
            by_cases hlt : A + 2 * bs ≤ n
            · go_wp2_with fail
              refine (sym_all base g cap n hl (n + 1) A (A + bs) (A + 2 * bs) (by omega) (by omega) (by omega) hlt _ _ _ cur _ (by omega) (by omega) (by omega) HLen.out HWay.out.row (lt_of_perm HWay.out.perm HX.out) (HHf.out.one (by omega)) (HHf.out.two hlt (by omega))).mono ?_
              rintro e w3 ⟨rfl, zs, hins, hrow, hbel⟩
              have hH3 := HHf.out.next hins
              have hW3 := HWay.out.next hins hrow hbel
              clear hins hrow hbel HHf HWay HLen
              go_wp2
              go_roundw
              case rel => exact ⟨A + 2 * bs, zs, by go_num, by go_num, hlt, hH3, hW3⟩
              case measure => simp [intOf]; omega
            · by_cases hm : A + bs < n
              · go_wp2_with fail
                refine (sym_all base g cap n hl (n + 1) A (A + bs) n (by omega) (by omega) hm (Nat.le_refl _) _ _ _ cur _ (by omega) (by omega) (by omega) HLen.out HWay.out.row (lt_of_perm HWay.out.perm HX.out) (HHf.out.one (by omega)) (HHf.out.two (Nat.le_refl _) (by omega))).mono ?_
                rintro e w3 ⟨rfl, zs, hins, hrow, hbel⟩
                have hH3 := HHf.out.merged (by omega) hins
                have hW3 := HWay.out.next hins hrow hbel
                clear hins hrow hbel HHf HWay HLen
                go_wp2
                go_roundw
                case rel => exact ⟨2 * bs, zs, by go_num, by omega, by omega, hH3, hW3⟩
                case measure => simp [intOf]; omega
              · have hH3 := HHf.out.rest (by omega)
                have hW3 := HWay.out
                clear HHf HWay HLen
                go_wp2
                go_roundw
                case rel => exact ⟨2 * bs, cur, by go_num, by omega, by omega, hH3, hW3⟩
                case measure => simp [intOf]; omega
        · go_wp2
          go_end0
          exact ⟨rfl, cur, Bk.all HBk.out (by omega), HWay.out⟩

end Go.Proofs.Ytlgfhmedenlbcab
