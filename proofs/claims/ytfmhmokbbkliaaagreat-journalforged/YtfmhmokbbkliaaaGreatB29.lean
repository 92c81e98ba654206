/- Part 29 of the proof: WireListR. -/
import Derived.Test.YtfmhmokbbkliaaaGreatB05
import Derived.Test.YtfmhmokbbkliaaaGreatB21

/- The contracts of tabulariumref01.Split, tabulariumref01.Join and tabulariumlaw01.texts. -/
namespace Go.Proofs.YtfmhmokbbkliaaaGreat.Wir
open Go.RowKit Go.Proofs.YtfmhmokbbkliaaaGreat

set_option maxRecDepth 100000 in
set_option maxHeartbeats 2000000 in
theorem refSplit_any (s : ByteArray) (w : World) (hs : s.size ≤ maxLen) :
    Calls Tryz.prog 52 #[.string s] w fun e w' => SplitEnds w.heap.size (.bool true) (.bool false) (splitL s) e w' ∧ Below w.heap.size w w' := by
  obtain ⟨i0, hi, hz0, hz1, hz2⟩ := info_parts Tryz.infoStr
  have HS : Hid (s.size ≤ maxLen) := hs
  clear hs
  cases hC : takeC 1000 s with
  | none =>
    have hL : splitL s = none := by unfold splitL; rw [hC]
    have HL : Hid _ := hL
    rcases takeC_no hC with h1 | ⟨z, k, h1, h2⟩
    · have H1 : Hid _ := refTakeV_no h1
      clear hC hL h1
      go_enter Tryz.func52, Tryz.ntmps52
      go_wp2_with fail
      refine (refTake_val s _ _ HS.out H1.out).mono ?_
      rintro e w1 ⟨rfl, b1⟩
      go_wp2
      go_ret2
      exact ⟨SplitEnds.none' HL.out rfl, b1⟩
    · have H1 : Hid _ := refTakeV_yes h1
      clear hC hL h1
      generalize s.extract k s.size = r at *
      generalize Lib.unzigzag z = N at *
      rcases h2 with h2 | h2
      all_goals
        go_enter Tryz.func52, Tryz.ntmps52
        go_wp2_with fail
        refine (refTake_val s _ _ HS.out H1.out).mono ?_
        rintro e w1 ⟨rfl, b1⟩
        go_wp2
        all_goals go_ret2
        all_goals exact ⟨SplitEnds.none' HL.out rfl, b1⟩
  | some p =>
    obtain ⟨n, r0⟩ := p
    have hL : splitL s = takeMany n r0 := by unfold splitL; rw [hC]
    have HL : Hid (splitL s = takeMany n r0) := hL
    have HC : Hid (refTakeV s = .tuple #[.int .i64 n, .string r0, .bool true]) := by
      obtain ⟨z, k, g1, g2, g3, g4, g5⟩ := takeC_yes hC
      rw [← g2, ← g3]; exact refTakeV_yes g1
    have hn : n ≤ 1000 := by obtain ⟨_, _, _, _, _, h, _⟩ := takeC_yes hC; exact h
    have HR0 : Hid (r0.size ≤ maxLen) := by obtain ⟨_, _, _, _, _, _, h⟩ := takeC_yes hC; exact Nat.le_trans h HS.out
    clear hC hL
    go_enter Tryz.func52, Tryz.ntmps52
    go_wp2_with fail
    refine (refTake_val s _ _ HS.out HC.out).mono ?_
    rintro e w1 ⟨rfl, b1⟩
    go_wp2_with fail
    go_loopw [5, 7, 8] (fun r v c wr => ∃ (k : Nat) (acc : List ByteArray) (rr : ByteArray), k ≤ n ∧ c = .int .i64 k ∧ r = .string rr ∧ rr.size ≤ maxLen ∧ takeMany n r0 = (takeMany (n - k) rr).map (acc ++ ·) ∧ acc.length = k ∧ (∀ x ∈ acc, x.size ≤ maxLen) ∧
        wr.ownsRow w.heap.size 9 1 v acc.length (acc.map Value.string) ∧ Below w.heap.size w wr) (fun _ _ c _ => n - (intOf c).toNat)
    case atStart => exact ⟨0, [], r0, by omega, rfl, rfl, HR0.out, by simp, rfl, by simp, World.ownsRow_nil _ _ _ _, b1⟩
    case round =>
      obtain ⟨k, acc, rr, hk, rfl, rfl, hrr, hE, hacc, hxs, hown, hbel⟩ := hrel
      have E : Hid (takeMany n r0 = (takeMany (n - k) rr).map (acc ++ ·)) := hE
      have HRR : Hid (rr.size ≤ maxLen) := hrr
      have HA : Hid (acc.length = k) := hacc
      have HX : Hid (∀ x ∈ acc, x.size ≤ maxLen) := hxs
      have hal : acc.length ≤ 1000 := by omega
      have hsz := hbel.size
      clear hE hrr hacc hxs HC HR0 HS b1
      by_cases hlt : k < n
      · cases hT : takeT rr with
        | none =>
          have HV : Hid (splitL s = none) := HL.out.trans (many_stop hlt E.out hT)
          have HT : Hid (takeT rr = none) := hT
          clear hT E HL hown
          go_wp2_with fail
          refine (refTakeText_no rr _ HRR.out HT.out).mono ?_
          rintro e w3 ⟨rfl, b3⟩
          have hbel3 := hbel.trans (b3.mono hsz)
          clear hbel b3
          go_wp2
          go_ret2
          exact ⟨SplitEnds.none' HV.out rfl, hbel3⟩
        | some p =>
          obtain ⟨t, q⟩ := p
          have E2 : Hid (takeMany n r0 = (takeMany (n - (k + 1)) q).map ((acc ++ [t]) ++ ·)) := many_step hlt E.out hT
          have HT : Hid (takeT rr = some (t, q)) := hT
          have HQ : Hid (q.size ≤ maxLen) := Nat.le_trans (takeT_size hT).1 HRR.out
          have HX2 : Hid (∀ x ∈ acc ++ [t], x.size ≤ maxLen) := by
            intro x hx
            rcases List.mem_append.1 hx with hx | hx
            · exact HX.out x hx
            · simp at hx; subst hx; exact Nat.le_trans (takeT_size hT).2 HRR.out
          clear hT E HX
          go_wp2_with fail
          refine (refTakeText_yes rr t q _ HRR.out HT.out).mono ?_
          rintro e w3 ⟨rfl, b3⟩
          have hbel3 := hbel.trans (b3.mono hsz)
          have hown3 : w3.ownsRow w.heap.size 9 1 u7 acc.length (acc.map Value.string) := by
            refine hown.kept (row := none) ⟨b3.os, b3.tape, b3.output, b3.size, fun k hk _ => b3.block k hk⟩ ?_
            cases h : u7.ownBlock with
            | none => exact .inl rfl
            | some x => exact .inr (by simp)
          have hsz3 := hbel3.size
          clear hbel b3 hown
          go_wp2_with (at_builtin; refine wpList_append_own _ rfl _ _ 76 rfl w.heap.size 9 i0 (.string ⟨#[]⟩) 1 16 Tryz.underlying76 hi hz0 hz1 hz2 rfl (by decide) _ _ _ rfl (hown3.alloc _) ⟨w3.heap.size, 0, none⟩ 1 1 [.string t] rfl rfl ?c1 ?c2 ?c3 ?c4 ?c5 ?_)
          case c1 =>
            intro j u hj
            match j, hj with
            | 0, hj => simp at hj; subst hj; simp [Addr.add]
          case c2 => intro u hu; simp at hu; subst hu; rfl
          case c3 => unfold maxLen; omega
          case c4 => omega
          case c5 => simp; omega
          · intro v' w4 hown4 hgrow _
            have hbel4 : Below w.heap.size w w4 := by
              refine (hbel3.alloc hsz3 _).grown hgrow (by simp; omega) ?_
              intro k hk
              exact (hown3.lt k hk).1
            have hown5 : w4.ownsRow w.heap.size 9 1 v' (acc ++ [t]).length ((acc ++ [t]).map Value.string) := by
              simpa using hown4
            have HA2 : Hid ((acc ++ [t]).length = k + 1) := by
              show (_ : Nat) = _
              rw [List.length_append, HA.out]; rfl
            clear hown4 hgrow hown3 hbel3 HA
            go_wp2
            go_roundw
            case rel => exact ⟨k + 1, acc ++ [t], q, by omega, by go_num, rfl, HQ.out, E2.out, HA2.out, HX2.out, hown5, hbel4⟩
            case measure => simp [intOf]; omega
      · have hkn : k = n := by omega
        have hend : takeMany n r0 = if rr.size = 0 then some acc else none := by
          have := E.out
          rw [hkn] at this
          exact many_end this
        have hem := empty_iff rr
        by_cases h0 : rr.size = 0
        · rw [if_pos h0] at hend
          have HV : Hid (splitL s = some acc) := HL.out.trans hend
          have hem' : rr.toList.isEmpty = true := by
            cases hl : rr.toList with
            | nil => rfl
            | cons x y => rw [hl] at hem; simp [h0] at hem
          clear hem hend E HL h0 hkn
          go_wp2
          go_ret2
          exact ⟨SplitEnds.some' HV.out rfl hown hal HX.out, hbel⟩
        · rw [if_neg h0] at hend
          have HV : Hid (splitL s = none) := HL.out.trans hend
          have hem' : rr.toList.isEmpty = false := by
            cases hl : rr.toList with
            | nil => rw [hl] at hem; simp [h0] at hem
            | cons x y => rfl
          clear hem hend E HL h0 hkn hown
          go_wp2
          go_ret2
          exact ⟨SplitEnds.none' HV.out rfl, hbel⟩


/-- What the document's own Join answers. -/
def refJoinV (ss : List ByteArray) : Value := if joinOk ss then .tuple #[.string ⟨(joinB ss).toArray⟩, .bool true] else .tuple #[.string ⟨#[]⟩, .bool false]
theorem refJoinV_yes {ss : List ByteArray} (h : joinOk ss = true) : refJoinV ss = .tuple #[.string ⟨(joinB ss).toArray⟩, .bool true] := by unfold refJoinV; rw [if_pos h]
theorem refJoinV_no {ss : List ByteArray} (h : joinOk ss = false) : refJoinV ss = .tuple #[.string ⟨#[]⟩, .bool false] := by unfold refJoinV; rw [h]; rfl

set_option maxRecDepth 100000 in
set_option maxHeartbeats 2000000 in
theorem refJoin_any (a : Option Addr) (b off cap : Nat) (ss : List ByteArray) (w : World) (hS : Strs w a b off ss) :
    Calls Tryz.prog 91 #[.slice a ss.length cap] w fun e w' => e = .returned (refJoinV ss) ∧ Below w.heap.size w w' := by
  by_cases hlen : ss.length ≤ 1000
  · have hl10 := numB_len (n := (ss.length : Int)) (by omega) (by omega)
    go_enter Tryz.func91, Tryz.ntmps91
    go_wp2_with fail
    refine (refNum_any (ss.length : Int) _ (by omega) (by omega)).mono ?_
    rintro e w1 ⟨rfl, b1⟩
    go_wp2_with fail
    go_loopw [4, 5] (fun v c wr => ∃ (k : Nat) (A : ByteArray), k ≤ ss.length ∧ c = .int .i64 k ∧ (∀ s ∈ ss.take k, s.size ≤ 4000) ∧ v = .string A ∧ A.data.toList = numB ss.length ++ textsB (ss.take k) ∧ Below w.heap.size w wr) (fun _ c _ => ss.length - (intOf c).toNat)
    case atStart => exact ⟨0, _, by omega, rfl, by simp, rfl, by simp [textsB], b1⟩
    case round =>
      obtain ⟨k, A, hk, rfl, hall, rfl, hA, hbel⟩ := hrel
      have HA : Hid (∀ s ∈ ss.take k, s.size ≤ 4000) := hall
      have HB : Hid (A.data.toList = numB ss.length ++ textsB (ss.take k)) := hA
      have hsz := hbel.size
      clear hall b1 hA
      by_cases hlt : k < ss.length
      · obtain rfl := hS.addr (by omega)
        have hbl : b < w.heap.size := hS.lt (by omega)
        have hcell : wr.cell? ⟨b, off + k, none⟩ = some (.string ss[k]) := (hbel.cell (p := ⟨b, off + k, none⟩) hbl).trans (hS.cell k hlt)
        have hmem : ss[k] ∈ ss := List.getElem_mem hlt
        have HT : Hid (ss.take (k + 1) = ss.take k ++ [ss[k]]) := take_next ss k hlt
        have hL := textsB_len (ss.take k) HA.out
        have hL2 : (ss.take k).length ≤ 1000 := by rw [List.length_take]; omega
        by_cases h4 : ss[k].size ≤ 4000
        · have hT4 := textB_len ss[k] h4
          have hts : (textB ss[k]).data.toList.length = (textB ss[k]).size := Array.length_toList
          have hAs : A.size = (numB ss.length ++ textsB (ss.take k)).length := by
            rw [← HB.out]; exact Array.length_toList.symm
          have ha := fun (w : World) => run_string_add_sum (P := Tryz.prog) w A (textB ss[k]) (by rw [hAs, List.length_append]; omega)
          have HA2 : Hid (∀ s ∈ ss.take (k + 1), s.size ≤ 4000) := by
            intro s hs
            rw [HT.out, List.mem_append] at hs
            rcases hs with hs | hs
            · exact HA.out s hs
            · simp at hs; subst hs; exact h4
          have HR : Hid ((A ++ textB ss[k]).data.toList = numB ss.length ++ textsB (ss.take (k + 1))) := by
            show (_ : List UInt8) = _
            rw [HT.out, textsB_snoc, ← List.append_assoc, ← HB.out]
            simp [ByteArray.data_append]
          clear hL hL2 hT4 hts HA HT hmem hAs HB
          go_wp2_with fail
          refine (refText_yes ss[k] _ h4).mono ?_
          rintro e w3 ⟨rfl, b3⟩
          have hbel3 := hbel.trans (b3.mono hsz)
          clear hbel b3 hcell
          go_wp2
          go_roundw
          case rel => exact ⟨k + 1, _, by omega, by go_num, HA2.out, rfl, HR.out, hbel3⟩
          case measure => simp [intOf]; omega
        · have HV : Hid (refJoinV ss = .tuple #[.string ⟨#[]⟩, .bool false]) := by
            refine refJoinV_no ?_
            cases hj : joinOk ss with
            | false => rfl
            | true => exact absurd (((joinOk_iff ss).1 hj).2 _ hmem) h4
          clear hL hL2 HA HT hmem HB
          go_wp2_with fail
          refine (refText_no ss[k] _ (by omega)).mono ?_
          rintro e w3 ⟨rfl, b3⟩
          have hbel3 := hbel.trans (b3.mono hsz)
          clear hbel b3 hcell
          go_wp2
          go_ret2
          exact ⟨congrArg Ending.returned HV.out.symm, hbel3⟩
      · have hkl : k = ss.length := by omega
        have HV : Hid (refJoinV ss = .tuple #[.string A, .bool true]) := by
          have h1 : joinOk ss = true := by
            refine (joinOk_iff ss).2 ⟨hlen, ?_⟩
            have := HA.out
            rw [hkl, List.take_length] at this
            exact this
          have h2 : (⟨(joinB ss).toArray⟩ : ByteArray) = A := by
            have := HB.out
            rw [hkl, List.take_length] at this
            refine Go.WideShapes.bytes_inj ?_
            rw [this]; rfl
          rw [← h2]; exact refJoinV_yes h1
        clear HA HB hkl
        go_wp2
        go_ret2
        exact ⟨congrArg Ending.returned HV.out.symm, hbel⟩
  · have HV : Hid (refJoinV ss = .tuple #[.string ⟨#[]⟩, .bool false]) := by
      refine refJoinV_no ?_
      cases hj : joinOk ss with
      | false => rfl
      | true => exact absurd ((joinOk_iff ss).1 hj).1 hlen
    go_enter Tryz.func91, Tryz.ntmps91
    go_wp2
    go_ret2
    exact ⟨congrArg Ending.returned HV.out.symm, Below.refl _ _⟩

end Go.Proofs.YtfmhmokbbkliaaaGreat.Wir
