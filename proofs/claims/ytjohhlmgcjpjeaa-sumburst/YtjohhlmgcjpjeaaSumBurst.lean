/- SumBurst: for every string, number and list of numbers: the statement's function returns true; nothing that was there is changed. No condition (a string is at most as long as the row's reach lets it be). -/
import Derived.Test.YtjohhlmgcjpjeaaSumOpen
import Derived.Test.YtjohhlmgcjpjeaaSumEx
import Derived.Test.YtjohhlmgcjpjeaaSumByte
import Derived.Deep.RegionWith
namespace Go.Proofs.Ytjohhlmgcjpjeaa.sumBurst
open Go.ChangeShapes Go.WideShapes Go.ChangeAt Go.RowKit
open Go.ChangeMaps (open_string shut_string)
set_option linter.unusedVariables false

theorem own : ownKnob Try.prog.godebug = none := by kernel_rfl

/-- Unlike the list l at most in the i places from p on. -/
def Near (l : List UInt8) (p i : Nat) (m : List UInt8) : Prop := m.length = l.length ∧ ∀ j, (j < p ∨ p + i ≤ j) → m[j]? = l[j]?

theorem near_refl (l : List UInt8) (p : Nat) : Near l p 0 l := ⟨rfl, fun _ _ => rfl⟩
theorem near_set {l m : List UInt8} {p i : Nat} (h : Near l p i m) (y : UInt8) : Near l p (i + 1) (m.set (p + i) y) := by
  refine ⟨by rw [List.length_set]; exact h.1, fun j hj => ?_⟩
  rw [List.getElem?_set_ne (by omega)]
  exact h.2 j (by omega)
theorem near_sum {l m : List UInt8} {p i : Nat} (h : Near l p i m) (hi : i ≤ 4) (e : sumN m = sumN l) : m = l := by
  have h1 : ∀ (x : List UInt8), x = x.take p ++ (x.drop p).take 4 ++ x.drop (p + 4) := fun x => by
    rw [List.append_assoc, ← List.drop_drop, List.take_append_drop, List.take_append_drop]
  have h2 : m.take p = l.take p := by
    apply List.ext_getElem?
    intro j
    rw [List.getElem?_take, List.getElem?_take]
    split
    · exact h.2 j (by omega)
    · rfl
  have h3 : m.drop (p + 4) = l.drop (p + 4) := by
    apply List.ext_getElem?
    intro j
    rw [List.getElem?_drop, List.getElem?_drop]
    exact h.2 _ (by omega)
  have h4 := crc_burst (l.take p) ((m.drop p).take 4) ((l.drop p).take 4) (l.drop (p + 4)) (by simp [h.1]) (by simp; omega)
    (by
      have hm := h1 m
      rw [h2, h3] at hm
      rw [← hm, ← h1 l]
      exact BitVec.eq_of_toNat_eq e)
  rw [h1 m, h2, h3, h4, ← h1 l]

theorem byte_of (x : Int) (h0 : 0 ≤ x) (h1 : x < 256) : ∃ y : UInt8, x = (y.toNat : Int) := ⟨x.toNat.toUInt8, by
  simp [Nat.toUInt8, UInt8.toNat_ofNat']; omega⟩

set_option maxRecDepth 100000 in
set_option maxHeartbeats 1000000 in
theorem walk_b (s : ByteArray) (a1 : Int) (a : Option Addr) (b off cap L : Nat) (ls : List Int) (w : World) (hs : s.size ≤ 140737488355328) (h0 : -9223372036854775808 ≤ a1) (h1 : a1 ≤ 9223372036854775807) (hL : ls.length = L) (hl : L ≤ maxLen) (hI : Ints w .i64 a b off ls)
    (hr : ∀ j (hj : j < ls.length), -9223372036854775808 ≤ ls[j] ∧ ls[j] ≤ 9223372036854775807) :
    Calls Try.prog 8 #[.string s, .int .i64 a1, .slice a L cap] w fun e w' => e = .returned (.bool true) ∧ Below w.heap.size w w' := by
  have HI : Hid _ := hI
  have HL : Hid _ := hL
  have HR : Hid _ := hr
  have hl63 : L ≤ 9223372036854775807 := by unfold maxLen at hl; omega
  have hsm : s.size ≤ maxLen := by unfold maxLen; omega
  clear hI hL hl hr
  by_cases hemp : s.size = 0
  · have hem : s.toList.isEmpty = true := by
      rw [ByteArray.toList_eq, List.isEmpty_iff]
      exact List.eq_nil_of_length_eq_zero (by rw [Array.length_toList]; exact hemp)
    by_cases hneg : a1 < 0
    all_goals
      go_enter Try.func8, Try.ntmps8
      go_wp2_with fail
      refine (examples2_any _).mono ?_
      rintro e w1 ⟨rfl, b1⟩
      go_wp2
      all_goals go_ret
      all_goals exact ⟨rfl, b1⟩
  · have hpos : 0 < s.size := by omega
    have hem : s.toList.isEmpty = false := by
      rw [ByteArray.toList_eq]
      cases h : s.data.toList with
      | nil => have := congrArg List.length h; rw [Array.length_toList] at this; exact absurd this hemp
      | cons => rfl
    by_cases hneg : a1 < 0
    all_goals
      go_enter Try.func8, Try.ntmps8
      go_wp2_with fail
      refine (examples2_any _).mono ?_
      rintro e w1 ⟨rfl, b1⟩
      obtain ⟨v0, w2, hcv, hrow, bb⟩ := bytes_row (P := Try.prog) w1 9 40 5 s Try.underlying9 Try.underlying40 Try.underlying5 hsm w1.heap.size (Nat.le_refl _)
      obtain ⟨g, gcap, rfl, hrow2⟩ := hrow.open
      have hsl : s.data.toList.length = s.size := Array.length_toList
      rw [hsl] at hcv
      clear hsl
      have hw1 := b1.size
      have b2 := bel_trans b1 bb
      have HRow : Hid _ := hrow2
      clear hrow hrow2 bb b1
      go_wp2
      clear hcv hem
      first
        | (generalize hA : -(a1 + 1) = A at *
           have hA0 : 0 ≤ A := by omega
           have hA1 : A ≤ 9223372036854775807 := by omega
           clear hA)
        | (obtain ⟨A, rfl⟩ : ∃ A, A = a1 := ⟨_, rfl⟩
           have hA0 : 0 ≤ A := by omega
           have hA1 : A ≤ 9223372036854775807 := by omega)
      obtain ⟨p, hp⟩ : ∃ p : Nat, A % (s.size : Int) = (p : Int) := ⟨(A % (s.size : Int)).toNat, by
        have := Int.emod_nonneg A (b := (s.size : Int)) (by omega); omega⟩
      have hps : p < s.size := by have := Int.emod_lt_of_pos A (b := (s.size : Int)) (by omega); omega
      go_loopw [9] (fun c wr => ∃ (i : Nat) (m : List UInt8), i ≤ 4 ∧ i ≤ L ∧ c = .int .i64 i ∧ Near s.data.toList p i m ∧ RowAt w1.heap.size wr g gcap m ∧ Below w.heap.size w wr) (fun c _ => 4 - (intOf c).toNat)
      case atStart => exact ⟨0, s.data.toList, by omega, by omega, rfl, near_refl _ _, HRow.out, b2⟩
      case round =>
        obtain ⟨i, m, hi4, hiL, rfl, hnear, hrow, hbel⟩ := hrel
        have hml : m.length = s.size := hnear.1.trans Array.length_toList
        by_cases hgo : i < L ∧ i < 4 ∧ p + i < s.size
        · obtain ⟨g1, g2, g3⟩ := hgo
          have hiLl : i < ls.length := by rw [HL.out]; exact g1
          obtain rfl := HI.out.addr (by omega)
          have hcell := (HI.out.below hbel).cell i hiLl
          obtain ⟨k0, k1⟩ := HR.out i hiLl
          generalize ls[i] = K at *
          have hpi : p + i < m.length := by omega
          have hfz := hrow.live (p + i) (by have := hrow.fits; omega)
          have hcl := hrow.cell (p + i) hpi
          by_cases hK : K < 0
          · obtain ⟨y, hy⟩ := byte_of (-(K + 1).tmod 256 % 256) (by omega) (by omega)
            have HN : Hid _ := near_set hnear y
            have HS : Hid _ := hrow.set (p + i) hpi y
            have hb2 := hrow.set_below hbel hw1 (p + i) (.int .u8 (y.toNat : Int))
            have HY : Hid _ := hy
            clear hnear hrow hbel hy
            generalize m[p + i] = old at *
            go_wp2
            rw [HY.out]
            go_roundw
            case rel => exact ⟨i + 1, _, by omega, by omega, by go_num, HN.out, HS.out, hb2⟩
            case measure => simp [intOf]; omega
          · obtain ⟨y, hy⟩ := byte_of (K % 256) (by omega) (by omega)
            have HN : Hid _ := near_set hnear y
            have HS : Hid _ := hrow.set (p + i) hpi y
            have hb2 := hrow.set_below hbel hw1 (p + i) (.int .u8 (y.toNat : Int))
            have HY : Hid _ := hy
            clear hnear hrow hbel hy
            generalize m[p + i] = old at *
            go_wp2
            rw [HY.out]
            go_roundw
            case rel => exact ⟨i + 1, _, by omega, by omega, by go_num, HN.out, HS.out, hb2⟩
            case measure => simp [intOf]; omega
        · have hml2 : m.length ≤ 140737488355328 := by omega
          have HCV : Hid (∀ w', Below wr.heap.size wr w' → _) := fun w' h => hrow.string (P := Try.prog) 40 9 5 Try.underlying40 Try.underlying5 Try.underlying9 w' h
          have hcv : ∀ n, (convert 40 9 (.slice (some ⟨g, 0, none⟩) s.size gcap)).run Try.prog (wr.drewN n) = .ok (.string ⟨m.toArray⟩) (wr.drewN n) := fun n => by
            have := HCV.out _ (bel_drewN wr n)
            rw [hml] at this
            exact this
          obtain ⟨N, hN⟩ : ∃ N, sumN s.data.toList = N := ⟨_, rfl⟩
          obtain ⟨M, hM⟩ : ∃ M, sumN m = M := ⟨_, rfl⟩
          have hq : ((⟨m.toArray⟩ : ByteArray).toList == s.toList) = ((M : Int) == (N : Int)) := by
            rw [ByteArray.toList_eq, ByteArray.toList_eq]
            show (m == s.data.toList) = _
            by_cases he : m = s.data.toList
            · rw [← hM, ← hN, he]; simp
            · have hne : ¬ M = N := fun h => he (near_sum hnear hi4 (by rw [hM, hN, h]))
              have h1 : (m == s.data.toList) = false := by simpa using he
              have h2 : ((M : Int) == (N : Int)) = false := by simp; omega
              rw [h1, h2]
          generalize hX : (⟨m.toArray⟩ : ByteArray) = X at *
          have hXs : X.size ≤ maxLen := by rw [← hX]; show m.toArray.size ≤ _; rw [List.size_toArray]; unfold maxLen; omega
          have hXN : sumN X.data.toList = M := by rw [← hX]; exact hM
          have HXN : Hid _ := hXN
          have HN : Hid _ := hN
          clear hX hXN hN hM hrow HCV hnear hml hml2
          go_wp2
          all_goals
            refine wp_region_quiet_lit (by kernel_rfl) (by kernel_rfl) ?_
            repeat (first | go_big_quiet_step (first | (go_at_call_of 13 (Value.string X); exact Calls.quiet_of_same (sum_nat X M _ hXs HXN.out)) | (go_at_call_of 13 (Value.string s); exact Calls.quiet_of_same (sum_nat s N _ hsm HN.out))) | quiet_step (first | (go_at_call_of 13 (Value.string X); exact Calls.quiet_of_same (sum_nat X M _ hXs HXN.out)) | (go_at_call_of 13 (Value.string s); exact Calls.quiet_of_same (sum_nat s N _ hsm HN.out))))
            refine wpQuiet_nil ?_
            rintro _ ⟨nq, rfl⟩
            go_wp2
            go_ret
            exact ⟨rfl, below_drewN hbel _⟩

theorem walk (s : ByteArray) (a1 : Int) (a : Option Addr) (b off cap : Nat) (ls : List Int) (w : World) (hs : s.size ≤ maxLen) (w1 : (Lit.int .i64 a1).wf = true) (hI : Ints w .i64 a b off ls ∧ ls.length ≤ maxLen ∧ ∀ n ∈ ls, (Lit.int .i64 n).wf = true) (z : s.size ≤ 140737488351232) :
    Calls Try.prog 8 #[.string s, .int .i64 a1, .slice a ls.length cap] w fun e w' => e = .returned (.bool true) ∧ Below w.heap.size w w' :=
  walk_b s a1 a b off cap ls.length ls w (by omega) (bounds_i64 w1).1 (bounds_i64 w1).2 rfl hI.2.1 hI.1 (fun j hj => bounds_i64 (hI.2.2 _ (List.getElem_mem hj)))

set_option maxRecDepth 100000 in
theorem lifted (os : Os) (started : os.Started) (H : Type) (enc : TypeId × Value → H) :
    ReturnsInHanded {} Try.checked os 8 .any (Rows.sumBurstSpec.pre6 enc Try.prog Try.f8 Rows.sumBurstRow.domain false) (Rows.sumBurstSpec.post enc Try.prog Try.f8 false true false false) := by
  refine returnsInHanded_of_change_sized (C := Try.checked) own started (by kernel_rfl) Try.func8
    (ChangeSpec.witness6 (enc := enc) (C := Try.checked) false ⟨#[], #[.string ByteArray.empty, .int .i64 0, .slice none 0 0], []⟩ 8 (by kernel_rfl) (by kernel_rfl) (by kernel_rfl) (by kernel_rfl)) ?_
  intro W base args ds gs before hval0 hW hcnd hsz0 _
  have hval : ∀ (j : Nat) t v, Try.f8.params[j]? = some t → args[j]? = some v → Value.okWide Try.prog W .any base t v := hval0
  have hW' := hW
  obtain ⟨p, q, hA0, hV, rfl, hfz, hnd⟩ := hW
  have hA : DataW.TrodAll enc Try.prog W 0 (fun _ => true) true Try.f8.params.toList args.toList ds p := hA0
  have hsz : (DataW.weightsEach Try.prog (Try.f8.params.toList ++ Rows.sumBurstSpec.plain.varTypes Try.prog) (ds ++ gs)).all (· ≤ reachBytes) = true := hsz0
  rw [Try.params8] at hA hval hsz
  obtain ⟨v0, vs0, d0, ds0, p0, q0, hargs, rfl, rfl, h0, r0⟩ := trodAll_cons hA
  obtain ⟨v1, vs1, d1, ds1, p1, q1, rfl, rfl, rfl, h1, r1⟩ := trodAll_cons r0
  obtain ⟨v2, vs2, d2, ds2, p2, q2, rfl, rfl, rfl, h2, r2⟩ := trodAll_cons r1
  obtain ⟨rfl, rfl, rfl⟩ := trodAll_nil r2
  obtain rfl : args = #[v0, v1, v2] := by cases args; simp_all
  obtain ⟨rfl, rfl⟩ := trodVars_none hV
  obtain ⟨a0, rfl, rfl, rfl, w0⟩ := open_string Try.underlying9 (hval 0 9 v0 rfl rfl) h0
  obtain ⟨a1, rfl, rfl, rfl, w1⟩ := open_int Try.underlying3 (hval 1 3 v1 rfl rfl) h1
  obtain ⟨a2, len2, cap2, rfl⟩ := okWide_slice Try.underlying43 (hval 2 43 v2 rfl rfl)
  have k2 := h2
  have lt2 : ∀ x ∈ p2, x.block < W.heap.size := by obtain ⟨m, hm⟩ := k2; exact DataW.trod_lt m _ _ _ hm
  obtain ⟨b2, off2, ss2, rfl, w2⟩ := open_nums Try.underlying43 Try.underlying3 (by kernel_rfl) h2
  have z0 : a0.size ≤ 140737488351232 := by have h := sized_string hsz (j := 0) (t := 9) rfl rfl; rw [Array.length_toList] at h; exact h
  clear hA0 hval0
  refine (walk a0 a1 a2 b2 off2 cap2 ss2 W w0 w1 w2 z0).mono fun e W' ⟨he, bel⟩ => ?_
  subst he
  exact ⟨_, rfl, _, _, _, [], _, [], hW', trodAll_mk1 (shut_bool Try.underlying4 _), (trodAll_cons_mk (shut_string Try.underlying9 w0) (trodAll_cons_mk (shut_int Try.underlying3 w1) (trodAll_cons_mk (Below.trod laidOut (by kernel_rfl) (of_decide_eq_true (by kernel_rfl)) k2 bel lt2) trodAll_mk0))), rfl, bel.frame _, fun h => by cases h⟩

theorem over : Rows.sumBurstRow.holds Try.pinned (OpenSpec.ofChange Rows.sumBurstSpec) :=
  OpenClaim.holds_of_wide 8 Try.f8 rfl rfl rfl rfl rfl rfl rfl ⟨rfl, rfl, rfl, rfl, rfl⟩ rfl rfl rfl rfl rfl (by kernel_rfl) Try.func8 (by kernel_rfl)
    (of_decide_eq_true (by kernel_rfl)) (by unfold Func.isWrapper; first | (rw [if_pos (by decide +kernel)]; kernel_rfl) | (rw [if_neg (by decide +kernel)]; exact ⟨rfl, rfl⟩))
    (fun os started H enc _ => lifted os started H enc)
end Go.Proofs.Ytjohhlmgcjpjeaa.sumBurst

namespace Go.Proofs.Ytjohhlmgcjpjeaa
/-- The statement. -/
theorem sumBurst_holds : Rows.SumBurstSaid := sumBurst.over
#print axioms sumBurst_holds
end Go.Proofs.Ytjohhlmgcjpjeaa
