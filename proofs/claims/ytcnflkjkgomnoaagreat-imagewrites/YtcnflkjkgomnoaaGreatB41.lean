/- Part 41 of the proof: ImageR1. -/
import Derived.Test.YtcnflkjkgomnoaaGreatB03
import Derived.Test.YtcnflkjkgomnoaaGreatB35
import Derived.Test.YtcnflkjkgomnoaaGreatB40
set_option maxRecDepth 100000
set_option maxHeartbeats 8000000
namespace Go.Proofs.YtcnflkjkgomnoaaGreat.Img
open Go.RowKit Go.Proofs.YtcnflkjkgomnoaaGreat Go.Proofs.YtcnflkjkgomnoaaGreat.Smm
open Go.Proofs.YtcnflkjkgomnoaaGreat.Edi (numsB numsB_len numsB_take Nm bel_tr bel_al bel_cell)
open Go.Proofs.YtcnflkjkgomnoaaGreat.Wir (app_list app_size size_list mk_size numB_len refNum_any)
open Go.WideShapes (bytes_inj)
theorem refNums_val {a : Option Addr} {m q : Nat} {zs : List Int} {w : World} (h : Nm w a m zs) (h8 : m ≤ 30) (hr : ∀ z ∈ zs, I64 z) (X : ByteArray) (hX : mk (numsB zs) = X) :
    Calls Tryz.prog 32 #[.slice a m q] w fun e w' => e = .returned (.string X) ∧ Below w.heap.size w w' := by
  have HN : Hid (zs.length = m) := h.len
  have HC : Hid (Nm w a m zs) := h
  have HR : Hid (∀ z ∈ zs, I64 z) := hr
  have HX : Hid (mk (numsB zs) = X) := hX
  clear h hr hX; go_enter Tryz.func32, Tryz.ntmps32; go_wp2; go_loopw [3, 4] (fun v c wr => ∃ (i : Nat) (S : ByteArray), i ≤ m ∧ c = .int .i64 i ∧ v = .string S ∧ mk (numsB (zs.take i)) = S ∧ Below w.heap.size w wr) (fun _ c _ => m - (intOf c).toNat)
  case atStart => exact ⟨0, ⟨#[]⟩, by omega, rfl, rfl, rfl, Below.refl _ _⟩
  case round =>
    obtain ⟨i, S, hil, rfl, rfl, hS, hb⟩ := hrel
    have HB : Hid (Below w.heap.size w wr) := hb
    have HS : Hid (mk (numsB (zs.take i)) = S) := hS
    by_cases hlt : i < m
    · have hix : i < zs.length := by rw [HN.out]; exact hlt
      obtain ⟨b, off, rfl, hat⟩ := (HC.out.below hb).at (by omega)
      have e0 := hat i hix
      have hSs : S.size ≤ 300 := by
        rw [← hS, mk_sz2]
        have h2 := numsB_len (zs.take i) (fun z hz => HR.out z (List.mem_of_mem_take hz))
        rw [List.length_take] at h2
        omega
      have hzr := HR.out zs[i] (List.getElem_mem hix)
      have hz10 := numB_len hzr.1 hzr.2
      obtain ⟨T, hT⟩ : ∃ T, mk (numsB (zs.take (i + 1))) = T := ⟨_, rfl⟩
      have hj : S ++ mk (Wir.numB zs[i]) = T := by rw [← hT, ← hS, ← mk_app, ← numsB_take zs i hix]
      have HT : Hid (mk (numsB (zs.take (i + 1))) = T) := hT
      have CN : Hid (∀ W, Calls Tryz.prog 71 #[.int .i64 zs[i]] W fun e w' => e = .returned (.string (mk (Wir.numB zs[i]))) ∧ Below W.heap.size W w') := fun W => refNum_any zs[i] W hzr.1 hzr.2
      have hsz : (mk (Wir.numB zs[i])).size ≤ 10 := by rw [mk_sz2]; exact hz10
      generalize mk (Wir.numB zs[i]) = U at *
      have ha : ∀ w : World, (Op.stringOp .add S U).run Tryz.prog w = .ok (.string T) w := fun w => by
        have h := run_string_add_sum (P := Tryz.prog) w S U (by omega)
        rw [hj] at h
        exact h
      generalize zs[i] = z at *
      clear hb hat hS hT hj hzr hz10 hix hSs hsz; go_wp2_with fail
      refine (CN.out _).mono ?_
      rintro e w1 ⟨rfl, b1⟩; have B1 : Hid (Below w.heap.size w w1) := bel_tr HB.out b1
      clear b1; go_wp2; go_roundw
      case rel => exact ⟨i + 1, T, by omega, by go_num, rfl, HT.out, B1.out⟩
      case measure => simp [intOf]; omega
    · obtain rfl : i = m := by omega
      have hgd : decide ((i : Int) < (i : Int)) = false := decide_eq_false (by omega)
      have hSX : S = X := by rw [← hS, ← HX.out, List.take_of_length_le (by rw [HN.out]; omega)]
      subst hSX; clear hb hlt hS; go_wp2; go_ret; exact ⟨rfl, HB.out⟩
theorem refSeal12_val (p J : ByteArray) (w : World) (hp : p.size ≤ 4000) (hJ : sealB p = J) :
    Calls Tryz.prog 31 #[.string p] w fun e w' => e = .returned (.string J) ∧ Below w.heap.size w w' := by
  subst hJ; go_enter Tryz.func31, Tryz.ntmps31; go_wp2_with fail
  refine (refSeal_yes p _ hp).mono ?_
  rintro e w1 ⟨rfl, b1⟩; go_wp2; go_ret; exact ⟨rfl, b1⟩
end Go.Proofs.YtcnflkjkgomnoaaGreat.Img
