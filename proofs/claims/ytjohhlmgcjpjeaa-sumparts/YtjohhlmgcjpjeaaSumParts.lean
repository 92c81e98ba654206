/- SumParts: for all strings and numbers: the statement's function returns true; nothing that was there is changed. No condition. -/
import Derived.Test.YtjohhlmgcjpjeaaSumPartsM
import Derived.Test.YtjohhlmgcjpjeaaSumEx
import Derived.Deep.RegionWith
import Derived.BigRegion
import Derived.Lib.MinMax
import Derived.Lib.QuietBelow
import Derived.ProofKit
import Derived.OpenShut
import Derived.ShutString
import Derived.ChangeOld
import Derived.Below
namespace Go.Proofs.Ytjohhlmgcjpjeaa.sumParts
open Go.ChangeShapes Go.WideShapes Go.ChangeAt Go.RowKit
open Go.ChangeMaps (open_string shut_string)
set_option linter.unusedVariables false

theorem own : ownKnob Try.prog.godebug = none := by kernel_rfl

theorem rems (a D : Int) (h0 : -9223372036854775808 ≤ a) (hD : 0 < D) : ∃ Q : Nat, (a < 0 → -(a + 1).tmod D = (Q : Int)) ∧ (¬ a < 0 → a.tmod D = (Q : Int)) ∧ (¬ a < 0 → a % D = (Q : Int)) ∧ (Q : Int) < D := by
  by_cases h : a < 0
  · have e : -(a + 1).tmod D = (-(a + 1)) % D := by rw [← Int.neg_tmod, Int.tmod_eq_emod_of_nonneg (by omega)]
    have e1 := Int.emod_nonneg (-(a + 1)) (b := D) (by omega)
    have e2 := Int.emod_lt_of_pos (-(a + 1)) hD
    exact ⟨((-(a + 1)) % D).toNat, fun _ => by omega, fun h' => absurd h h', fun h' => absurd h h', by omega⟩
  · have e : a.tmod D = a % D := Int.tmod_eq_emod_of_nonneg (by omega)
    have e1 := Int.emod_nonneg a (b := D) (by omega)
    have e2 := Int.emod_lt_of_pos a hD
    exact ⟨(a % D).toNat, fun h' => absurd h' h, fun _ => by omega, fun _ => by omega, by omega⟩

theorem own_cell {w : World} {base g n : Nat} {e : TypeId} {zs : List Int} (h : w.ownsRow base e 1 (.slice (some ⟨g, 0, none⟩) n n) n (intCells .u32 zs)) :
    n = zs.length ∧ Ints w .u32 (some ⟨g, 0, none⟩) g 0 zs := by
  have hlen := h.1
  rw [intCells_len] at hlen
  refine ⟨by omega, fun _ => rfl, fun j hj => ?_⟩
  have := h.cells (g := g) rfl j (.int .u32 zs[j]) (by simp [intCells, hj])
  rw [Addr.add_lit] at this
  exact this

theorem Ints.src {w : World} {g : Nat} {zs : List Int} (h : Ints w .u32 (some ⟨g, 0, none⟩) g 0 zs) : ∀ j u, (intCells .u32 zs)[j]? = some u → w.cell? ((⟨g, 0, none⟩ : Addr).add j) = some u := by
  intro j u hj
  have hl := (List.getElem?_eq_some_iff.1 hj).1
  rw [intCells_len] at hl
  rw [Addr.add_lit, h.cell j hl, ← hj]
  simp [intCells, hl]

theorem one_cell {zs : List Int} : ∀ u ∈ intCells .u32 zs, u.oneCell' = true := by
  intro u hu
  simp [intCells] at hu
  obtain ⟨z, _, rfl⟩ := hu
  rfl

set_option maxRecDepth 100000 in
set_option maxHeartbeats 1000000 in
theorem walk_b (s t S T ST : ByteArray) (a2 a3 : Int) (M M8 M' : Nat) (w : World) (hs : s.size ≤ maxLen) (ht : t.size ≤ maxLen) (hM : min (s.size : Int) 500 = (M : Int)) (hM8 : (M : Int) / 8 * 8 = (M8 : Int)) (hM' : min (t.size : Int) 500 = (M' : Int))
    (hS : s.extract 0 M8 = S) (hT : t.extract 0 M' = T) (hST : S ++ T = ST) (hSz : S.size = M8) (hTz : T.size = M') (h0 : -9223372036854775808 ≤ a2) (h1 : a2 ≤ 9223372036854775807) (h2 : -9223372036854775808 ≤ a3) (h3 : a3 ≤ 9223372036854775807) :
    Calls Try.prog 7 #[.string s, .string t, .int .i64 a2, .int .i64 a3] w fun e w' => e = .returned (.bool true) ∧ Below w.heap.size w w' := by
  obtain ⟨i0, hi, hz0, hz1, hz2⟩ := info_parts Try.infoU32
  have hs' : s.size ≤ 9223372036854775807 := by unfold maxLen at hs; omega
  have ht' : t.size ≤ 9223372036854775807 := by unfold maxLen at ht; omega
  have hm1 : M ≤ 500 := by omega
  have hm2 : M8 ≤ M := by omega
  have hm3 : M' ≤ 500 := by omega
  have hm4 : M8 ≤ s.size := by omega
  have hm5 : M' ≤ t.size := by omega
  have hmod : M8 % 8 = 0 := by omega
  have HZ : Hid (chunkZ ST = chunkZ S ++ chunkZ T) := by rw [← hST]; exact chunkZ_append S T (by rw [hSz]; exact hmod)
  have ha := fun (w : World) => run_string_add_sum (P := Try.prog) w S T (by omega)
  have hSTz : ST.size ≤ 1000 := by rw [← hST, ByteArray.size_append]; omega
  rw [hST] at ha
  have HSz : Hid _ := hSz
  have HM8 : Hid (M8 ≤ 500) := Nat.le_trans hm2 hm1
  have HTz : Hid _ := hTz
  clear hST hSz hTz hmod
  go_enter Try.func7, Try.ntmps7
  go_wp2_with fail
  refine (examples2_any _).mono ?_
  rintro e w1 ⟨rfl, b1⟩
  go_wp2_with fail
  refine (chunks_any S _ (by have := HSz.out; omega)).mono ?_
  rintro e w2 ⟨g1, n1, rfl, o1, b2⟩
  go_wp2_with fail
  refine (chunks_any T _ (by have := HTz.out; omega)).mono ?_
  rintro e w3 ⟨g2, n2, rfl, o2, b3⟩
  obtain ⟨hn1, I1⟩ := own_cell o1
  obtain ⟨hn2, I2⟩ := own_cell o2
  have l1 := chunkZ_len S
  have l2 := chunkZ_len T
  have k1 : n1 ≤ 63 := by have := HSz.out; omega
  have k2 : n2 ≤ 63 := by have := HTz.out; omega
  have HN1 : Hid _ := hn1
  have HN2 : Hid _ := hn2
  clear o1 o2 hn1 hn2 l1 l2 hM hM8 hM' hS hT hm1 hm2 hm3 hm4 hm5
  have b13 := bel_trans (bel_trans b1 b2) b3
  have I1' := I1.below b3
  clear I1 b1 b2 b3
  go_wp2_with fail
  refine (chunks_val ST _ (by omega)).mono ?_
  rintro e w4 ⟨a4, n4, cap4, g4, rfl, h41, h42, I4, b4⟩
  have H41 : Hid _ := h41
  clear h41
  have I1 := I1'.below b4
  have I2' := I2.below b4
  have b14 := bel_trans b13 b4
  clear I1' I2 b13 b4
  go_wp2_with (first
    | (at_builtin; refine wpList_append_own _ rfl (.const (.slice none 0 0)) (.tmp 35) 22 rfl w4.heap.size 26 i0 (.int .u32 0) 1 4 Try.underlying22 hi hz0 hz1 hz2 rfl (by decide) (.slice none 0 0) 0 [] rfl (World.ownsRow_nil _ _ _ _) ⟨g1, 0, none⟩ n1 n1 (intCells .u32 (chunkZ S)) rfl (by rw [intCells_len, Nat.mul_one]; exact HN1.out.symm) (Ints.src I1) one_cell (by unfold maxLen; omega) (by omega) (Nat.le_refl _) ?_; intro v5 w5 o5 g5 _)
    | (at_builtin; refine wpList_append_own _ rfl (.tmp 36) (.tmp 37) 22 rfl w4.heap.size 26 i0 (.int .u32 0) 1 4 Try.underlying22 hi hz0 hz1 hz2 rfl (by decide) _ _ _ rfl o5 ⟨g2, 0, none⟩ n2 n2 (intCells .u32 (chunkZ T)) rfl (by rw [intCells_len, Nat.mul_one]; exact HN2.out.symm) (Ints.src (I2'.below ((Below.refl _ _).grown g5 (Nat.le_refl _) (by simp [Value.ownBlock])))) one_cell (by unfold maxLen; omega) (by omega) g5.size ?_; intro v6 w6 o6 g6 _))
  have b46 : Below w4.heap.size w4 w6 := (((Below.refl _ _).grown g5 (Nat.le_refl _) (by simp [Value.ownBlock]))).grown g6 g5.size (fun k hk => (o5.lt k hk).1)
  have o7 : w6.ownsRow w4.heap.size 26 1 v6 (n1 + n2) (intCells .u32 (chunkZ S ++ chunkZ T)) := by
    have h := o6
    rw [List.nil_append, Nat.zero_add] at h
    rw [show intCells .u32 (chunkZ S ++ chunkZ T) = intCells .u32 (chunkZ S) ++ intCells .u32 (chunkZ T) by simp [intCells]]
    exact h
  obtain ⟨hn6, a6, cap6, g6', rfl, I6, _⟩ := own_ints o7
  rw [← hn6]
  have HN6 : Hid _ := hn6
  have I1b := I1.below b46
  have I4b := I4.below b46
  have b16 := bel_trans b14 b46
  have hk6 : n1 + n2 ≤ 126 := by omega
  clear o5 g5 o6 g6 o7 hn6 I1 I2' I4 b14 b46 ha
  generalize n1 + n2 = n6 at *
  go_wp2_with fail
  refine (sums_same _ _ g4 0 cap4 g6' 0 cap6 n4 n6 (chunkZ ST) (chunkZ S ++ chunkZ T) _ H41.out HN6.out.symm (by unfold maxLen; omega) I4b I6 HZ.out).mono ?_
  rintro e w7 ⟨rfl, b7⟩
  have I1c := I1b.below b7
  have b17 := bel_trans b16 b7
  clear I1b b16 b7 I4b I6
  by_cases hemp : S.size = 0
  · go_wp2
    go_ret
    exact ⟨rfl, b17⟩
  · have hpos : 0 < S.size := by omega
    have hS5 : S.size ≤ 1000 := by have := HSz.out; have := HM8.out; omega
    have hSm : S.size ≤ maxLen := by unfold maxLen; omega
    have hS4 : S.size ≤ 140737488355328 := by omega
    obtain ⟨P, hP1, hP2, hP3, hP⟩ := rems a2 (S.size : Int) h0 (by omega)
    obtain ⟨R, hR1, hR2, hR3, hR⟩ := rems a3 255 h2 (by omega)
    obtain ⟨v0, w8, hcv, hrow, bb⟩ := bytes_row (P := Try.prog) w7 9 40 5 S Try.underlying9 Try.underlying40 Try.underlying5 hSm w7.heap.size (Nat.le_refl _)
    obtain ⟨g, gcap, rfl, hrow2⟩ := hrow.open
    have hsl : S.data.toList.length = S.size := Array.length_toList
    rw [hsl] at hcv
    have hw7 := b17.size
    have b18 := bel_trans b17 bb
    have I1d := I1c.below bb
    have hg1 : 0 < n1 := by rw [HN1.out, chunkZ_len]; omega
    have hlt1 : g1 < w7.heap.size := I1c.lt (by rw [← HN1.out]; exact hg1)
    have hlo := hrow2.lo
    have hlP : P < S.data.toList.length := by rw [hsl]; omega
    have hPS : P < S.size := by omega
    have hfz := hrow2.live P (by have := hrow2.fits; omega)
    have hcl := hrow2.cell P hlP
    have hgo := List.getElem?_eq_getElem hlP
    generalize S.data.toList[P] = old at *
    obtain ⟨y, hy, hyo⟩ := xor8 old (1 + (R : Int)) (by omega) (by omega)
    obtain ⟨p8, hp8⟩ : ∃ p8 : Nat, P / 8 = p8 := ⟨_, rfl⟩
    have e5 : (P : Int) / 8 = (p8 : Int) := by omega
    have HBX : Hid (badN 0 (chunkZ ⟨(S.data.toList.set P y).toArray⟩) (chunkZ S) = (p8 : Int)) := by
      rw [← hp8]
      exact bad_set S P y hPS (by rw [hgo]; intro e; exact hyo (Option.some.inj e).symm)
    have HRS : Hid _ := hrow2.set P hlP y
    have hb9 := hrow2.set_below b18 hw7 P (.int .u8 (y.toNat : Int))
    have I1s : Ints (w8.setCell ⟨g, P, none⟩ (.int .u8 (y.toNat : Int))) .u32 (some ⟨g1, 0, none⟩) g1 0 (chunkZ S) :=
      ⟨I1d.addr, fun j hj => by
        rw [World.cell?_setCell_other]
        · exact I1d.cell j hj
        · intro e
          have := (Addr.mk.inj e).1
          omega⟩
    have HY : Hid _ := hy
    have HSL : Hid _ := hsl
    have HI1 : Hid _ := I1s
    clear hrow hrow2 bb b17 I1c I1d hgo hy hyo hp8 hsl hlo b18 hlP I1s hlt1
    by_cases hneg : a2 < 0
    all_goals by_cases hneg2 : a3 < 0
    all_goals
      first
        | (have e1 := hP1 hneg)
        | (have e1 := hP2 hneg
           have e1' := hP3 hneg)
      first
        | (have e2 := hR1 hneg2)
        | (have e2 := hR2 hneg2
           have e2' := hR3 hneg2)
      clear hP1 hP2 hP3 hR1 hR2 hR3
      go_wp2
      clear hcv
      go_region
      rw [HY.out]
      have hrow := HRS.out.below ((Below.refl _ _).drew)
      have b19 := hb9.drew
      have I1e := HI1.out.below ((Below.refl _ _).drew)
      clear hb9 HRS HI1 hcl hfz
      generalize (w8.setCell ⟨g, P, none⟩ (.int .u8 (y.toNat : Int))).drew = w9 at *
      have hcv2 : ∀ d os, (convert 40 9 (.slice (some ⟨g, 0, none⟩) S.size gcap)).run Try.prog (Sort.grow (redrawn w9 d) os) = .ok (.string ⟨(S.data.toList.set P y).toArray⟩) (Sort.grow (redrawn w9 d) os) := fun d os => by
        have h := hrow.string (P := Try.prog) 40 9 5 Try.underlying40 Try.underlying5 Try.underlying9 (Sort.grow (redrawn w9 d) os) (below_regrown _ _ _)
        rw [List.length_set, HSL.out] at h
        exact h
      have hXs : (⟨(S.data.toList.set P y).toArray⟩ : ByteArray).size ≤ 140737488355328 := by
        show (S.data.toList.set P y).toArray.size ≤ _
        rw [List.size_toArray, List.length_set, HSL.out]; exact hS4
      generalize (⟨(S.data.toList.set P y).toArray⟩ : ByteArray) = X at *
      clear hrow HSL
      go_wp2
      refine wp_region_quiet_below (by kernel_rfl) (by kernel_rfl) ?_
      repeat (first | go_big_quiet_step (first | (go_at_call_of 15 (Value.string X); exact Calls.regrown_of (bad_val X _ g1 0 n1 n1 (chunkZ S) (p8 : Int) _ hXs HN1.out.symm (by unfold maxLen; omega) (I1e.below (below_regrown _ _ _)) HBX.out)) | (go_at_call_of 15 (Value.string S); exact Calls.regrown_of (bad_val S _ g1 0 n1 n1 (chunkZ S) (-1) _ hS4 HN1.out.symm (by unfold maxLen; omega) (I1e.below (below_regrown _ _ _)) (badN_same _ _)))) | quiet_step (first | (go_at_call_of 15 (Value.string X); exact Calls.regrown_of (bad_val X _ g1 0 n1 n1 (chunkZ S) (p8 : Int) _ hXs HN1.out.symm (by unfold maxLen; omega) (I1e.below (below_regrown _ _ _)) HBX.out)) | (go_at_call_of 15 (Value.string S); exact Calls.regrown_of (bad_val S _ g1 0 n1 n1 (chunkZ S) (-1) _ hS4 HN1.out.symm (by unfold maxLen; omega) (I1e.below (below_regrown _ _ _)) (badN_same _ _)))))
      refine wpQuiet_nil ?_
      intro _ hw'
      obtain ⟨⟨dq, osq⟩, hw''⟩ := hw'
      subst hw''
      go_wp2
      go_ret
      exact ⟨rfl, bel_trans b19 (below_regrown w9 dq osq)⟩

theorem cut_size (s : ByteArray) (k : Nat) (h : k ≤ s.size) : (s.extract 0 k).size = k := by
  rw [ByteArray.size_extract]; omega

theorem walk (a0 a1 : ByteArray) (a2 a3 : Int) (w0 : a0.size ≤ maxLen) (w1 : a1.size ≤ maxLen) (w2 : (Lit.int .i64 a2).wf = true) (w3 : (Lit.int .i64 a3).wf = true) (w : World) :
    Calls Try.prog 7 #[.string a0, .string a1, .int .i64 a2, .int .i64 a3] w fun e w' => e = .returned (.bool true) ∧ Below w.heap.size w w' :=
  walk_b a0 a1 (a0.extract 0 (min a0.size 500 / 8 * 8)) (a1.extract 0 (min a1.size 500)) _ a2 a3 (min a0.size 500) (min a0.size 500 / 8 * 8) (min a1.size 500) w w0 w1 (by omega) (by omega) (by omega) rfl rfl rfl
    (cut_size _ _ (by omega)) (cut_size _ _ (by omega)) (bounds_i64 w2).1 (bounds_i64 w2).2 (bounds_i64 w3).1 (bounds_i64 w3).2

set_option maxRecDepth 100000 in
theorem lifted (os : Os) (started : os.Started) (H : Type) (enc : TypeId × Value → H) :
    ReturnsInHanded {} Try.checked os 7 .any (Rows.sumPartsSpec.pre6 enc Try.prog Try.f7 Rows.sumPartsRow.domain false) (Rows.sumPartsSpec.post enc Try.prog Try.f7 false true false false) := by
  refine returnsInHanded_of_change (C := Try.checked) own started (by kernel_rfl) Try.func7
    (ChangeSpec.witness6 (enc := enc) (C := Try.checked) false ⟨#[], #[.string ByteArray.empty, .string ByteArray.empty, .int .i64 0, .int .i64 0], []⟩ 8 (by kernel_rfl) (by kernel_rfl) (by kernel_rfl) (by kernel_rfl)) ?_
  intro W base args ds gs before hval0 hW hcnd _
  have hval : ∀ (j : Nat) t v, Try.f7.params[j]? = some t → args[j]? = some v → Value.okWide Try.prog W .any base t v := hval0
  have hW' := hW
  obtain ⟨p, q, hA0, hV, rfl, hfz, hnd⟩ := hW
  have hA : DataW.TrodAll enc Try.prog W 0 (fun _ => true) true Try.f7.params.toList args.toList ds p := hA0
  rw [Try.params7] at hA hval
  obtain ⟨v0, vs0, d0, ds0, p0, q0, hargs, rfl, rfl, h0, r0⟩ := trodAll_cons hA
  obtain ⟨v1, vs1, d1, ds1, p1, q1, rfl, rfl, rfl, h1, r1⟩ := trodAll_cons r0
  obtain ⟨v2, vs2, d2, ds2, p2, q2, rfl, rfl, rfl, h2, r2⟩ := trodAll_cons r1
  obtain ⟨v3, vs3, d3, ds3, p3, q3, rfl, rfl, rfl, h3, r3⟩ := trodAll_cons r2
  obtain ⟨rfl, rfl, rfl⟩ := trodAll_nil r3
  obtain rfl : args = #[v0, v1, v2, v3] := by cases args; simp_all
  obtain ⟨rfl, rfl⟩ := trodVars_none hV
  obtain ⟨a0, rfl, rfl, rfl, w0⟩ := open_string Try.underlying9 (hval 0 9 v0 rfl rfl) h0
  obtain ⟨a1, rfl, rfl, rfl, w1⟩ := open_string Try.underlying9 (hval 1 9 v1 rfl rfl) h1
  obtain ⟨a2, rfl, rfl, rfl, w2⟩ := open_int Try.underlying3 (hval 2 3 v2 rfl rfl) h2
  obtain ⟨a3, rfl, rfl, rfl, w3⟩ := open_int Try.underlying3 (hval 3 3 v3 rfl rfl) h3
  clear hA0 hval0
  refine (walk a0 a1 a2 a3 w0 w1 w2 w3 W).mono fun e W' ⟨he, bel⟩ => ?_
  subst he
  exact ⟨_, rfl, _, _, _, [], _, [], hW', trodAll_mk1 (shut_bool Try.underlying4 _), (trodAll_cons_mk (shut_string Try.underlying9 w0) (trodAll_cons_mk (shut_string Try.underlying9 w1) (trodAll_cons_mk (shut_int Try.underlying3 w2) (trodAll_cons_mk (shut_int Try.underlying3 w3) trodAll_mk0)))), rfl, bel.frame _, fun h => by cases h⟩

theorem over : Rows.sumPartsRow.holds Try.pinned (OpenSpec.ofChange Rows.sumPartsSpec) :=
  OpenClaim.holds_of_wide 7 Try.f7 rfl rfl rfl rfl rfl rfl rfl ⟨rfl, rfl, rfl, rfl, rfl⟩ rfl rfl rfl rfl rfl (by kernel_rfl) Try.func7 (by kernel_rfl)
    (of_decide_eq_true (by kernel_rfl)) (by unfold Func.isWrapper; first | (rw [if_pos (by decide +kernel)]; kernel_rfl) | (rw [if_neg (by decide +kernel)]; exact ⟨rfl, rfl⟩))
    (fun os started H enc _ => lifted os started H enc)
end Go.Proofs.Ytjohhlmgcjpjeaa.sumParts

namespace Go.Proofs.Ytjohhlmgcjpjeaa
/-- The statement. -/
theorem sumParts_holds : Rows.SumPartsSaid := sumParts.over
#print axioms sumParts_holds
end Go.Proofs.Ytjohhlmgcjpjeaa
