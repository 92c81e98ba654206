/- The contract of slices.symMergeCmpFunc where the second row has one. -/
import Derived.Test.YtlgfhmedenlbcabRealIns
import Derived.Test.YtlgfhmedenlbcabRealRot
namespace Go.Proofs.Ytlgfhmedenlbcab
open Go.RowKit

set_option maxRecDepth 100000 in
set_option maxHeartbeats 2000000 in
theorem symB_val (base g cap n a m b : Nat) (xs : List Nat) (w : World) (hn : xs.length = n) (hl : n ≤ 1000) (hR : RowF base w g xs) (hx : ∀ x ∈ xs, x < 18446744073709551616) (ham : a + 2 ≤ m) (hm : b = m + 1) (hb : b ≤ n) (s1 : Srt a m xs) :
    Calls Try.prog 29 #[.slice (some ⟨g, 0, none⟩) n cap, .int .i64 a, .int .i64 m, .int .i64 b, ordF] w fun e w' => e = .returned (.tuple #[]) ∧ ∃ ys, InsF a b b xs ys ∧ RowF base w' g ys ∧ Below base w w' := by
  subst hm
  have HN : Hid _ := hn
  have HR : Hid _ := hR
  have HX : Hid _ := hx
  have HS : Hid _ := s1
  have HLo : Hid _ := Nat.le_trans hR.lo (Nat.le_of_lt hR.hi)
  clear hn hR hx s1
  unfold ordF
  go_enter Try.func29, Try.ntmps29
  go_wp2
  go_loopw [14, 15] (fun v u wr => ∃ (i j d : Nat), a ≤ i ∧ i ≤ j ∧ j ≤ m ∧ v = .int .i64 i ∧ u = .int .i64 j ∧ (∀ t, a ≤ t → t < i → key (at0 xs t) ≤ key (at0 xs m)) ∧ (∀ t, j ≤ t → t < m → key (at0 xs m) ≤ key (at0 xs t)) ∧ wr = w.drewN d) (fun v u _ => (intOf u).toNat - (intOf v).toNat)
  case atStart => exact ⟨a, m, 0, by omega, by omega, by omega, rfl, rfl, fun t h1 h2 => by omega, fun t h1 h2 => by omega, rfl⟩
  case round =>
    obtain ⟨i, j, d, h1, h2, h3, rfl, rfl, k1, k2, hd⟩ := hrel
    have hrow : RowF base wr g xs := by rw [hd]; exact HR.out.drew d
    have hlen := HN.out
    have K1 : Hid _ := k1
    have K2 : Hid _ := k2
    have HD : Hid _ := hd
    clear k1 k2 hd HR
    by_cases hij : i < j
    · obtain ⟨h, hh⟩ : ∃ h : Nat, ((i : Int) + (j : Int)) / 2 = (h : Int) := ⟨(i + j) / 2, by omega⟩
      have hh1 : i ≤ h := by omega
      have hh2 : h < j := by omega
      have c1 := hrow.cell m (by omega)
      have c2 := hrow.cell h (by omega)
      have b1 := HX.out _ (mem_at0 (show m < xs.length by omega))
      have b2 := HX.out _ (mem_at0 (show h < xs.length by omega))
      have HL : Hid _ := hlen
      clear hrow hlen
      by_cases hk : key (at0 xs m) < key (at0 xs h)
      · have C : Hid _ := fun w => order_val (at0 xs m) (at0 xs h) (-1) w b1 b2 (cmp_lt0 hk)
        have HK : Hid _ := hk
        clear hk b1 b2
        generalize hx1 : at0 xs m = x1 at *
        generalize hx2 : at0 xs h = x2 at *
        go_wp2
        go_quiet ((go_at_call 9; exact Calls.quiet_of_same (C.out _)))
        clear C
        go_wp2
        go_roundw
        case rel => exact ⟨i, h, _, by omega, by omega, by omega, rfl, rfl, K1.out, fun t q1 q2 => by
          have e := HS.out h t (by omega) (by omega) (by omega)
          have k := HK.out
          rw [hx2] at e
          exact Int.le_trans (Int.le_of_lt k) e, by rw [HD.out, World.drewN_drewN]⟩
        case measure => simp [intOf]; omega
      · obtain ⟨z, hz⟩ := cmp_nlt hk
        have C : Hid _ := fun w => order_val (at0 xs m) (at0 xs h) (z : Int) w b1 b2 hz
        have HK : Hid _ := hk
        clear hk b1 b2 hz
        generalize hx1 : at0 xs m = x1 at *
        generalize hx2 : at0 xs h = x2 at *
        go_wp2
        go_quiet ((go_at_call 9; exact Calls.quiet_of_same (C.out _)))
        clear C
        go_wp2
        go_roundw
        case rel => exact ⟨h + 1, j, _, by omega, by omega, by omega, by go_num, rfl, fun t q1 q2 => by
          have e := HS.out t h (by omega) (by omega) (by omega)
          have k := HK.out
          rw [hx2] at e
          exact Int.le_trans e (Int.not_lt.1 k), K2.out, by rw [HD.out, World.drewN_drewN]⟩
        case measure => simp [intOf]; omega
    · obtain rfl : i = j := by omega
      have hbel : Below base w wr := by rw [HD.out]; exact below_drewN ((Below.refl _ _).mono HLo.out) d
      have HRow : Hid _ := hrow
      have HBel : Hid _ := hbel
      have HL : Hid _ := hlen
      clear hrow hbel hlen hij HN
      rename World => wo
      go_wp2
      go_loopw [17] (fun v wr => ∃ (k : Nat) (cur : List Nat), i ≤ k ∧ k ≤ m ∧ v = .int .i64 k ∧ ShiftR k m xs cur ∧ RowF base wr g cur ∧ Below base w wr) (fun v _ => (intOf v).toNat)
      case atStart => exact ⟨m, xs, by omega, by omega, rfl, ShiftR.start _ _, HRow.out, HBel.out⟩
      case round =>
        obtain ⟨k, cur, q1, q2, rfl, hsh, hrow, hbel⟩ := hrel
        have hlen : cur.length = n := by rw [hsh.len, HL.out]
        by_cases hk : i < k
        · obtain ⟨k', rfl⟩ : ∃ k', k = k' + 1 := ⟨k - 1, by omega⟩
          have c1 := hrow.cell (k' + 1) (by omega)
          have c2 := hrow.cell k' (by omega)
          have f1 := hrow.live (k' + 1) (by omega)
          have f2 := hrow.live k' (by omega)
          have hR2 := fun d => (hrow.drew d).swap (k' + 1) k' (by omega) (by omega)
          have hB2 := fun d => (hrow.drew d).swap_below (below_drewN hbel d) (Nat.le_refl _) (k' + 1) k' (.float .f64 (at0 cur k')) (.float .f64 (at0 cur (k' + 1)))
          have HR2 : Hid _ := hR2
          have HB2 : Hid _ := hB2
          have HSh : Hid _ := hsh
          clear hR2 hB2 hsh hrow hbel hlen
          generalize hx1 : at0 cur (k' + 1) = x1 at *
          generalize hx2 : at0 cur k' = x2 at *
          have hst := run_store_flt
          go_wp2
          go_region
          go_wp2
          go_roundw
          case rel => exact ⟨k', _, by omega, by omega, by go_num, HSh.out.next (by omega) (by rw [HL.out]; omega), HR2.out _, HB2.out _⟩
          case measure => simp [intOf]
        · have hins : InsF a (m + 1) (m + 1) xs cur := ⟨hsh.moved (by omega) q2, hsh.sorted HS.out (by omega) q2 (fun t t1 t2 => K1.out t t1 (by omega)) (fun t t1 t2 => K2.out t (by omega) t2)⟩
          clear hsh K1 K2 HRow HBel
          go_wp2
          try simp only [Exit.inBlock, Exit.then]
          refine bodyPost_ret (results_none rfl _ _ _) rfl ?_
          exact ⟨rfl, cur, hins, hrow, hbel⟩

end Go.Proofs.Ytlgfhmedenlbcab
