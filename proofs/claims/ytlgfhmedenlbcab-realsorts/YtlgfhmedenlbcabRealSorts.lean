/- RealSorts: for every slice of float64: the statement's function returns true; nothing that was there is changed. No condition. -/
import Derived.Test.YtlgfhmedenlbcabRealSort
import Derived.Test.YtlgfhmedenlbcabRealCnt
import Derived.Test.YtlgfhmedenlbcabRealSh
import Derived.Laws.Cover2
namespace Go.Proofs.Ytlgfhmedenlbcab.realSorts
open Go.ChangeShapes Go.WideShapes Go.ChangeAt Go.RowKit
open Go.ChangeMaps (open_string shut_string)
set_option linter.unusedVariables false

theorem own : ownKnob Try.prog.godebug = none := by kernel_rfl

theorem cell_drew {w : World} {a : Addr} {v : Value} (h : w.cell? a = some v) (n : Nat) : (w.drewN n).cell? a = some v := ((belD w n).cell (World.block_lt_of_cell? _ _ h)).trans h
theorem flts_at {w : World} {a : Option Addr} {b off : Nat} {xs : List Nat} (h : Flts w a b off xs) (j : Nat) (hj : j < xs.length) : w.cell? ⟨b, off + j, none⟩ = some (.float .f64 (at0 xs j)) := by
  rw [at0_eq _ _ hj]; exact h.cell j hj

set_option maxRecDepth 100000 in
set_option maxHeartbeats 2000000 in
theorem walk (a0 : Option Addr) (b0 off0 cap0 : Nat) (xs : List Nat) (w : World) (h0 : Flts w a0 b0 off0 xs ∧ (xs.length ≤ maxLen ∧ xs.length ≤ cap0) ∧ ∀ x ∈ xs, x < 18446744073709551616) :
    Calls Try.prog 4 #[.slice a0 xs.length cap0] w fun e w' => e = .returned (.bool true) ∧ Below w.heap.size w w' := by
  obtain ⟨hI, ⟨hl, hcap⟩, hx⟩ := h0
  obtain ⟨n, hlen⟩ : ∃ n, xs.length = n := ⟨_, rfl⟩
  rw [hlen] at hl hcap ⊢
  obtain ⟨M, hM⟩ : ∃ M : Nat, min (n : Int) 60 = (M : Int) := ⟨min n 60, by omega⟩
  have hM60 : M ≤ 60 := by omega
  have hMn : M ≤ n := by omega
  obtain ⟨xt, hxt⟩ : ∃ xt, xs.take M = xt := ⟨_, rfl⟩
  have hMl : xt.length = M := by rw [← hxt, List.length_take]; omega
  have hIt : Flts w a0 b0 off0 xt := by rw [← hxt]; exact hI.take M
  have hxb : ∀ x ∈ xt, x < 18446744073709551616 := by rw [← hxt]; exact fun x h => hx x (List.mem_of_mem_take h)
  have CS : Hid _ := fun a cap w h => sort_val a b0 off0 cap M xt w hMl (by omega) h hxb
  have HI : Hid _ := hIt
  have HX : Hid _ := hxb
  have HL : Hid _ := hMl
  have HA : Hid (0 < M → a0 = some ⟨b0, off0, none⟩) := fun h => hI.addr (by omega)
  clear hI hIt hx hxb hMl hlen hxt
  unfold maxLen at hl
  go_enter Try.func4, Try.ntmps4
  go_wp2_with fail
  refine (examples3_any _).mono ?_
  rintro e w1 ⟨rfl, rfl⟩
  rename World => w
  go_wp2_with fail
  refine (CS.out _ _ _ HI.out).mono ?_
  rintro e w1 ⟨rfl, ys, hs, hway⟩
  have hlen2 : ys.length = M := by rw [hway.perm.length_eq, HL.out]
  have hyb := lt_of_perm hway.perm HX.out
  have hI1 := HI.out.below hway.bel
  have hrow1 := hway.row
  have HS : Hid _ := hs
  have HP : Hid _ := hway.perm
  have HB : Hid _ := hway.bel
  have HY : Hid _ := hyb
  have HLy : Hid _ := hlen2
  have HR : Hid _ := hrow1
  have HI1 : Hid _ := hI1
  clear hs hway hlen2 hyb hI1 hrow1 CS HI
  generalize hG : w.heap.size = G at *
  go_wp2
  go_loopw [5] (fun v wr => ∃ i d : Nat, i ≤ M ∧ v = .int .i64 i ∧ wr = w1.drewN d) (fun v _ => M - (intOf v).toNat)
  case atStart => exact ⟨0, 0, by omega, rfl, rfl⟩
  case round =>
    obtain ⟨i, d, hi, rfl, hd⟩ := hrel
    have hrow : RowF G wr G ys := by rw [hd]; exact HR.out.drew d
    have HD : Hid _ := hd
    clear hd
    by_cases hlt : i < M
    · have c1 := hrow.cell i (by rw [HLy.out]; exact hlt)
      have b1 := HY.out _ (mem_at0 (show i < ys.length by rw [HLy.out]; exact hlt))
      clear hrow
      by_cases hz : i = 0
      · subst hz
        clear b1
        go_wp2
        go_quiet (fail)
        rename World => wo
        go_wp2
        go_loopw [6, 7, 8] (fun va vb vk wr => ∃ c A B d : Nat, c ≤ M ∧ vk = .int .i64 c ∧ va = .int .i64 A ∧ vb = .int .i64 B ∧ A = cnt (key (at0 ys (0))) xt c ∧ B = cnt (key (at0 ys (0))) ys c ∧ wr = w1.drewN d) (fun _ _ vk _ => M - (intOf vk).toNat)
        case atStart => exact ⟨0, 0, 0, _, by omega, rfl, rfl, rfl, (cnt_zero _ _).symm, (cnt_zero _ _).symm, by first | exact HD.out | (rw [HD.out, World.drewN_drewN])⟩
        case round =>
          obtain ⟨c, A, B, d2, hc, rfl, rfl, rfl, hA, hB, hd2⟩ := hrel
          have hAle : A ≤ c := by rw [hA]; exact cnt_le _ _ _
          have hBle : B ≤ c := by rw [hB]; exact cnt_le _ _ _
          by_cases hcm : c < M
          · have hrow2 : RowF G wr G ys := by rw [hd2]; exact HR.out.drew d2
            have hI2 : Flts wr a0 b0 off0 xt := by rw [hd2]; exact HI1.out.below (belD w1 d2)
            obtain rfl := HA.out (by omega)
            have q1 := hrow2.cell (0) (by rw [HLy.out]; omega)
            have q2 := hrow2.cell c (by rw [HLy.out]; omega)
            have q3 := flts_at hI2 c (by rw [HL.out]; omega)
            have p1 := HY.out _ (mem_at0 (show 0 < ys.length by rw [HLy.out]; omega))
            have p2 := HY.out _ (mem_at0 (show c < ys.length by rw [HLy.out]; omega))
            have p3 := HX.out _ (mem_at0 (show c < xt.length by rw [HL.out]; omega))
            have HA2 : Hid _ := hA
            have HB2 : Hid _ := hB
            have HD2 : Hid _ := hd2
            clear hA hB hd2 hrow2 hI2
            obtain ⟨Z1, hZ1⟩ : ∃ Z, cmpZ (key (at0 ys (0))) (key (at0 xt c)) = Z := ⟨_, rfl⟩
            obtain ⟨Z2, hZ2⟩ : ∃ Z, cmpZ (key (at0 ys (0))) (key (at0 ys c)) = Z := ⟨_, rfl⟩
            have C1 : Hid _ := fun w => order_val (at0 ys (0)) (at0 xt c) Z1 w p1 p3 hZ1
            have C2 : Hid _ := fun w => order_val (at0 ys (0)) (at0 ys c) Z2 w p1 p2 hZ2
            have n1 : Z1 = 0 ∧ cnt (key (at0 ys (0))) xt (c + 1) = A + 1 ∨ (Z1 == 0) = false ∧ cnt (key (at0 ys (0))) xt (c + 1) = A := by
              by_cases e : key (at0 ys (0)) = key (at0 xt c)
              · exact .inl ⟨hZ1 ▸ cmpZ_zero.2 e, by rw [cnt_yes (by rw [HL.out]; omega) e, HA2.out]⟩
              · exact .inr ⟨by simp; intro k; exact e (cmpZ_zero.1 (hZ1.trans k)), by rw [cnt_no (by rw [HL.out]; omega) e, HA2.out]⟩
            have n2 : Z2 = 0 ∧ cnt (key (at0 ys (0))) ys (c + 1) = B + 1 ∨ (Z2 == 0) = false ∧ cnt (key (at0 ys (0))) ys (c + 1) = B := by
              by_cases e : key (at0 ys (0)) = key (at0 ys c)
              · exact .inl ⟨hZ2 ▸ cmpZ_zero.2 e, by rw [cnt_yes (by rw [HLy.out]; omega) e, HB2.out]⟩
              · exact .inr ⟨by simp; intro k; exact e (cmpZ_zero.1 (hZ2.trans k)), by rw [cnt_no (by rw [HLy.out]; omega) e, HB2.out]⟩
            have N1 : Hid _ := n1
            have N2 : Hid _ := n2
            clear hZ1 hZ2 p1 p2 p3 n1 n2 HA2 HB2
            generalize hv1 : at0 ys (0) = v1 at q1 C1 C2
            generalize hv2 : at0 ys c = v2 at q2 C2
            generalize hv3 : at0 xt c = v3 at q3 C1
            clear hv2 hv3 c1
            go_wp2
            go_quiet ((go_at_call 9; exact Calls.quiet_of_same (C1.out _)))
            clear C1
            have q4 := cell_drew q1 nq
            have q5 := cell_drew q2 nq
            obtain ⟨dd, hdd⟩ : ∃ dd, wr.drewN nq = w1.drewN dd := ⟨d2 + nq, by rw [HD2.out, World.drewN_drewN]⟩
            have HWq : Hid (wr.drewN nq = w1.drewN dd) := hdd
            clear hdd
            generalize wr.drewN nq = W at *
            clear q1 q2 q3 HD2
            clear nq
            rcases N1.out with ⟨rfl, n1⟩ | ⟨z1, n1⟩
            all_goals
              have M1 : Hid _ := n1
              clear n1 N1
              go_wp2
              go_quiet ((go_at_call 9; exact Calls.quiet_of_same (C2.out _)))
              clear C2
              rcases N2.out with ⟨rfl, n2⟩ | ⟨z2, n2⟩
              all_goals
                have M2 : Hid _ := n2
                clear n2 N2
                go_wp2
                go_roundw
                case rel =>
                  have hfin : W.drewN nq = w1.drewN (dd + nq) := by rw [HWq.out, World.drewN_drewN]
                  first
                    | exact ⟨_, _, _, _, _, _, _, _, _, _, _, _, _, _, _, _, _, _, _, _, _, _, _, _, _, _, _, _, _, _, _, _, _, ⟨c + 1, A + 1, B + 1, dd + nq, by omega, by go_num, by first | rfl | go_num, by first | rfl | go_num, by rw [← hv1]; exact M1.out.symm, by rw [← hv1]; exact M2.out.symm, hfin⟩, rfl⟩
                    | exact ⟨_, _, _, _, _, _, _, _, _, _, _, _, _, _, _, _, _, _, _, _, _, _, _, _, _, _, _, _, _, _, _, _, _, ⟨c + 1, A + 1, B, dd + nq, by omega, by go_num, by first | rfl | go_num, by first | rfl | go_num, by rw [← hv1]; exact M1.out.symm, by rw [← hv1]; exact M2.out.symm, hfin⟩, rfl⟩
                    | exact ⟨_, _, _, _, _, _, _, _, _, _, _, _, _, _, _, _, _, _, _, _, _, _, _, _, _, _, _, _, _, _, _, _, _, ⟨c + 1, A, B + 1, dd + nq, by omega, by go_num, by first | rfl | go_num, by first | rfl | go_num, by rw [← hv1]; exact M1.out.symm, by rw [← hv1]; exact M2.out.symm, hfin⟩, rfl⟩
                    | exact ⟨_, _, _, _, _, _, _, _, _, _, _, _, _, _, _, _, _, _, _, _, _, _, _, _, _, _, _, _, _, _, _, _, _, ⟨c + 1, A, B, dd + nq, by omega, by go_num, by first | rfl | go_num, by first | rfl | go_num, by rw [← hv1]; exact M1.out.symm, by rw [← hv1]; exact M2.out.symm, hfin⟩, rfl⟩
                case measure => simp [intOf]; omega
          · obtain rfl : c = M := by omega
            obtain rfl : A = B := by rw [hA, hB]; exact cnt_perm HP.out (by rw [HL.out]; exact Nat.le_refl _)
            have HD2 : Hid _ := hd2
            clear hA hB hd2 c1
            go_wp2
            go_roundw
            case rel => exact ⟨0 + 1, d2, by omega, by go_num, HD2.out⟩
            case measure => simp [intOf]; omega
      · obtain ⟨i', rfl⟩ : ∃ i', i = i' + 1 := ⟨i - 1, by omega⟩
        have hrow : RowF G wr G ys := by rw [HD.out]; exact HR.out.drew d
        have c0 := hrow.cell i' (by rw [HLy.out]; omega)
        have b0' := HY.out _ (mem_at0 (show i' < ys.length by rw [HLy.out]; omega))
        obtain ⟨Z, hZ⟩ : ∃ Z, cmpZ (key (at0 ys i')) (key (at0 ys (i' + 1))) = Z := ⟨_, rfl⟩
        have hZ0 : Z ≤ 0 := by rw [← hZ]; exact cmpZ_le (HS.out i' (i' + 1) (by omega) (by omega) hlt)
        have C0 : Hid _ := fun w => order_val (at0 ys i') (at0 ys (i' + 1)) Z w b0' b1 hZ
        clear hrow b0' b1 hZ
        have hg : decide ((0 : Int) < (i' : Int) + 1) = true := decide_eq_true (by omega)
        generalize hv0 : at0 ys i' = v0 at c0 C0
        generalize hv1 : at0 ys (i' + 1) = v1 at c1 C0
        go_wp2
        go_quiet ((go_at_call 9; exact Calls.quiet_of_same (C0.out _)))
        clear C0 hv0 c0
        rename World => wo
        go_wp2
        go_loopw [6, 7, 8] (fun va vb vk wr => ∃ c A B d : Nat, c ≤ M ∧ vk = .int .i64 c ∧ va = .int .i64 A ∧ vb = .int .i64 B ∧ A = cnt (key (at0 ys (i' + 1))) xt c ∧ B = cnt (key (at0 ys (i' + 1))) ys c ∧ wr = w1.drewN d) (fun _ _ vk _ => M - (intOf vk).toNat)
        case atStart => exact ⟨0, 0, 0, _, by omega, rfl, rfl, rfl, (cnt_zero _ _).symm, (cnt_zero _ _).symm, by first | exact HD.out | (rw [HD.out, World.drewN_drewN])⟩
        case round =>
          obtain ⟨c, A, B, d2, hc, rfl, rfl, rfl, hA, hB, hd2⟩ := hrel
          have hAle : A ≤ c := by rw [hA]; exact cnt_le _ _ _
          have hBle : B ≤ c := by rw [hB]; exact cnt_le _ _ _
          by_cases hcm : c < M
          · have hrow2 : RowF G wr G ys := by rw [hd2]; exact HR.out.drew d2
            have hI2 : Flts wr a0 b0 off0 xt := by rw [hd2]; exact HI1.out.below (belD w1 d2)
            obtain rfl := HA.out (by omega)
            have q1 := hrow2.cell (i' + 1) (by rw [HLy.out]; omega)
            have q2 := hrow2.cell c (by rw [HLy.out]; omega)
            have q3 := flts_at hI2 c (by rw [HL.out]; omega)
            have p1 := HY.out _ (mem_at0 (show i' + 1 < ys.length by rw [HLy.out]; omega))
            have p2 := HY.out _ (mem_at0 (show c < ys.length by rw [HLy.out]; omega))
            have p3 := HX.out _ (mem_at0 (show c < xt.length by rw [HL.out]; omega))
            have HA2 : Hid _ := hA
            have HB2 : Hid _ := hB
            have HD2 : Hid _ := hd2
            clear hA hB hd2 hrow2 hI2
            obtain ⟨Z1, hZ1⟩ : ∃ Z, cmpZ (key (at0 ys (i' + 1))) (key (at0 xt c)) = Z := ⟨_, rfl⟩
            obtain ⟨Z2, hZ2⟩ : ∃ Z, cmpZ (key (at0 ys (i' + 1))) (key (at0 ys c)) = Z := ⟨_, rfl⟩
            have C1 : Hid _ := fun w => order_val (at0 ys (i' + 1)) (at0 xt c) Z1 w p1 p3 hZ1
            have C2 : Hid _ := fun w => order_val (at0 ys (i' + 1)) (at0 ys c) Z2 w p1 p2 hZ2
            have n1 : Z1 = 0 ∧ cnt (key (at0 ys (i' + 1))) xt (c + 1) = A + 1 ∨ (Z1 == 0) = false ∧ cnt (key (at0 ys (i' + 1))) xt (c + 1) = A := by
              by_cases e : key (at0 ys (i' + 1)) = key (at0 xt c)
              · exact .inl ⟨hZ1 ▸ cmpZ_zero.2 e, by rw [cnt_yes (by rw [HL.out]; omega) e, HA2.out]⟩
              · exact .inr ⟨by simp; intro k; exact e (cmpZ_zero.1 (hZ1.trans k)), by rw [cnt_no (by rw [HL.out]; omega) e, HA2.out]⟩
            have n2 : Z2 = 0 ∧ cnt (key (at0 ys (i' + 1))) ys (c + 1) = B + 1 ∨ (Z2 == 0) = false ∧ cnt (key (at0 ys (i' + 1))) ys (c + 1) = B := by
              by_cases e : key (at0 ys (i' + 1)) = key (at0 ys c)
              · exact .inl ⟨hZ2 ▸ cmpZ_zero.2 e, by rw [cnt_yes (by rw [HLy.out]; omega) e, HB2.out]⟩
              · exact .inr ⟨by simp; intro k; exact e (cmpZ_zero.1 (hZ2.trans k)), by rw [cnt_no (by rw [HLy.out]; omega) e, HB2.out]⟩
            have N1 : Hid _ := n1
            have N2 : Hid _ := n2
            clear hZ1 hZ2 p1 p2 p3 n1 n2 HA2 HB2
            generalize hv1 : at0 ys (i' + 1) = v1 at q1 C1 C2
            generalize hv2 : at0 ys c = v2 at q2 C2
            generalize hv3 : at0 xt c = v3 at q3 C1
            clear hv2 hv3 c1
            go_wp2
            go_quiet ((go_at_call 9; exact Calls.quiet_of_same (C1.out _)))
            clear C1
            have q4 := cell_drew q1 nq
            have q5 := cell_drew q2 nq
            obtain ⟨dd, hdd⟩ : ∃ dd, wr.drewN nq = w1.drewN dd := ⟨d2 + nq, by rw [HD2.out, World.drewN_drewN]⟩
            have HWq : Hid (wr.drewN nq = w1.drewN dd) := hdd
            clear hdd
            generalize wr.drewN nq = W at *
            clear q1 q2 q3 HD2
            clear nq
            rcases N1.out with ⟨rfl, n1⟩ | ⟨z1, n1⟩
            all_goals
              have M1 : Hid _ := n1
              clear n1 N1
              go_wp2
              go_quiet ((go_at_call 9; exact Calls.quiet_of_same (C2.out _)))
              clear C2
              rcases N2.out with ⟨rfl, n2⟩ | ⟨z2, n2⟩
              all_goals
                have M2 : Hid _ := n2
                clear n2 N2
                go_wp2
                go_roundw
                case rel =>
                  have hdl : decide ((i' : Int) + 1 < (M : Int)) = true := decide_eq_true (by omega)
                  simp only [hdl]
                  have hfin : W.drewN nq = w1.drewN (dd + nq) := by rw [HWq.out, World.drewN_drewN]
                  first
                    | exact ⟨_, _, _, _, _, _, _, _, _, _, _, _, _, _, _, _, _, _, _, _, _, _, _, _, _, _, _, _, _, _, _, _, _, ⟨c + 1, A + 1, B + 1, dd + nq, by omega, by go_num, by first | rfl | go_num, by first | rfl | go_num, by rw [← hv1]; exact M1.out.symm, by rw [← hv1]; exact M2.out.symm, hfin⟩, rfl⟩
                    | exact ⟨_, _, _, _, _, _, _, _, _, _, _, _, _, _, _, _, _, _, _, _, _, _, _, _, _, _, _, _, _, _, _, _, _, ⟨c + 1, A + 1, B, dd + nq, by omega, by go_num, by first | rfl | go_num, by first | rfl | go_num, by rw [← hv1]; exact M1.out.symm, by rw [← hv1]; exact M2.out.symm, hfin⟩, rfl⟩
                    | exact ⟨_, _, _, _, _, _, _, _, _, _, _, _, _, _, _, _, _, _, _, _, _, _, _, _, _, _, _, _, _, _, _, _, _, ⟨c + 1, A, B + 1, dd + nq, by omega, by go_num, by first | rfl | go_num, by first | rfl | go_num, by rw [← hv1]; exact M1.out.symm, by rw [← hv1]; exact M2.out.symm, hfin⟩, rfl⟩
                    | exact ⟨_, _, _, _, _, _, _, _, _, _, _, _, _, _, _, _, _, _, _, _, _, _, _, _, _, _, _, _, _, _, _, _, _, ⟨c + 1, A, B, dd + nq, by omega, by go_num, by first | rfl | go_num, by first | rfl | go_num, by rw [← hv1]; exact M1.out.symm, by rw [← hv1]; exact M2.out.symm, hfin⟩, rfl⟩
                case measure => simp [intOf]; omega
          · obtain rfl : c = M := by omega
            obtain rfl : A = B := by rw [hA, hB]; exact cnt_perm HP.out (by rw [HL.out]; exact Nat.le_refl _)
            have HD2 : Hid _ := hd2
            clear hA hB hd2 c1
            go_wp2
            go_roundw
            case rel => exact ⟨i' + 1 + 1, d2, by omega, by go_num, HD2.out⟩
            case measure => simp [intOf]; omega
    · clear hrow
      go_wp2
      go_ret
      exact ⟨rfl, by rw [HD.out, hG]; exact below_drewN HB.out d⟩

set_option maxRecDepth 100000 in
theorem lifted (os : Os) (started : os.Started) (H : Type) (enc : TypeId × Value → H) :
    ReturnsInHanded {} Try.checked os 4 .any (Rows.realSortsSpec.pre6 enc Try.prog Try.f4 Rows.realSortsRow.domain false) (Rows.realSortsSpec.post enc Try.prog Try.f4 false true false false) := by
  refine returnsInHanded_of_change (C := Try.checked) own started (by kernel_rfl) Try.func4
    (ChangeSpec.witness6 (enc := enc) (C := Try.checked) false ⟨#[], #[.slice none 0 0], []⟩ 8 (by kernel_rfl) (by kernel_rfl) (by kernel_rfl) (by kernel_rfl)) ?_
  intro W base args ds gs before hval0 hW hcnd _
  have hval : ∀ (j : Nat) t v, Try.f4.params[j]? = some t → args[j]? = some v → Value.okWide Try.prog W .any base t v := hval0
  have hW' := hW
  obtain ⟨p, q, hA0, hV, rfl, hfz, hnd⟩ := hW
  have hA : DataW.TrodAll enc Try.prog W 0 (fun _ => true) true Try.f4.params.toList args.toList ds p := hA0
  rw [Try.params4] at hA hval
  obtain ⟨v0, vs0, d0, ds0, p0, q0, hargs, rfl, rfl, h0, r0⟩ := trodAll_cons hA
  obtain ⟨rfl, rfl, rfl⟩ := trodAll_nil r0
  obtain rfl : args = #[v0] := by cases args; simp_all
  obtain ⟨rfl, rfl⟩ := trodVars_none hV
  obtain ⟨a0, len0, cap0, rfl⟩ := okWide_slice Try.underlying23 (hval 0 23 v0 rfl rfl)
  have k0 := h0
  have lt0 : ∀ x ∈ p0, x.block < W.heap.size := by obtain ⟨m, hm⟩ := k0; exact DataW.trod_lt m _ _ _ hm
  obtain ⟨b0, off0, ss0, rfl, w0⟩ := open_flts Try.underlying23 Try.underlying22 (by kernel_rfl) h0
  clear hA0 hval0
  refine (walk a0 b0 off0 cap0 ss0 W w0).mono fun e W' ⟨he, bel⟩ => ?_
  subst he
  exact ⟨_, rfl, _, _, _, [], _, [], hW', trodAll_mk1 (shut_bool Try.underlying4 _), (trodAll_cons_mk (Below.trod laidOutF (by kernel_rfl) (of_decide_eq_true (by kernel_rfl)) k0 bel lt0) trodAll_mk0), rfl, bel.frame _, fun h => by cases h⟩

theorem over : Rows.realSortsRow.holds Try.pinned (OpenSpec.ofChange Rows.realSortsSpec) :=
  OpenClaim.holds_of_wide 4 Try.f4 rfl rfl rfl rfl rfl rfl rfl ⟨rfl, rfl, rfl, rfl, rfl⟩ rfl rfl rfl rfl rfl (by kernel_rfl) Try.func4 (by kernel_rfl)
    (of_decide_eq_true (by kernel_rfl)) (by unfold Func.isWrapper; first | (rw [if_pos (by decide +kernel)]; kernel_rfl) | (rw [if_neg (by decide +kernel)]; exact ⟨rfl, rfl⟩))
    (fun os started H enc _ => lifted os started H enc)
end Go.Proofs.Ytlgfhmedenlbcab.realSorts

namespace Go.Proofs.Ytlgfhmedenlbcab
/-- The statement. -/
theorem realSorts_holds : Rows.RealSortsSaid := realSorts.over
#print axioms realSorts_holds
end Go.Proofs.Ytlgfhmedenlbcab
