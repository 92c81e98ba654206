/- The contract of tabulariumref06.Split. -/
import Derived.Test.YtlfehfajaelmlaaPathF3
import Derived.Test.YtlfehfajaelmlaaPathRN
namespace Go.Proofs.Ytlfehfajaelmlaa
open Go.RowKit

set_option maxRecDepth 100000 in
set_option maxHeartbeats 2000000 in
theorem refSplit_any (p : ByteArray) (X : List ByteArray × Int) (w : World) (hs : p.size ≤ maxLen) (hX : splitX p = X) :
    Calls Try.prog 43 #[.string p] w fun e w' => SplitR w.heap.size X e w' ∧ Below w.heap.size w w' := by
  obtain ⟨i0, hi, hz0, hz1, hz2⟩ := info_parts Try.infoStr
  have hs2 : p.size ≤ 9223372036854775807 := by unfold maxLen at hs; omega
  have HX0 : Hid (splitX p = X) := hX
  clear hX hs
  by_cases h1 : 120 < p.size
  · have HV : Hid (X = ([], 4)) := HX0.out.symm.trans (splitX_long h1)
    go_enter Try.func43, Try.ntmps43
    go_wp2
    go_ret2
    exact ⟨SplitR.bad HV.out rfl, Below.refl _ _⟩
  · cases h2 : p.toList == [47] with
    | true =>
      have HV : Hid (X = ([], 0)) := HX0.out.symm.trans (splitX_root h2)
      go_enter Try.func43, Try.ntmps43
      go_wp2
      go_ret2
      exact ⟨SplitR.bad HV.out rfl, Below.refl _ _⟩
    | false =>
      have HX : Hid (X = splitC (cutL p.data.toList)) := HX0.out.symm.trans (splitX_cut (by omega) h2)
      have hp : p.size ≤ 120 := by omega
      clear HX0 h1
      go_enter Try.func43, Try.ntmps43
      go_wp2
      go_loopg [4, 5] p.size (fun g v c wr => ∃ (i : Nat) (acc : List ByteArray), c = .int .i64 i ∧ i + g = p.size ∧ i ≤ p.size ∧ acc.length ≤ i ∧ Sofar p acc (p.data.toList.drop i) ∧
          wr.ownsRow w.heap.size 9 1 v acc.length (acc.map Value.string) ∧ Below w.heap.size w wr)
      case atStart => exact ⟨0, [], rfl, by omega, by omega, by simp, sofar_start p, World.ownsRow_nil _ _ _ _, Below.refl _ _⟩
      case round =>
        obtain ⟨i, acc, rfl, hg, hip, hle, hE, hown, hbel⟩ := hrel
        have HG : Hid (i + gk = p.size) := hg
        have E : Hid (Sofar p acc (p.data.toList.drop i)) := hE
        have hsz := hbel.size
        clear hg hE
        by_cases hlt : i < p.size
        · go_wp2
          rename World => wo
          go_loopg [6] (p.size - (i + 1)) (fun g c wi => ∃ n : Nat, c = .int .i64 n ∧ i + 1 ≤ n ∧ n + g = p.size ∧ (∀ j (hj : j < p.size), i + 1 ≤ j → j < n → p[j] ≠ 47) ∧ wi = wo)
          case atStart => exact ⟨i + 1, by go_num, by omega, by omega, fun j hj h1 h2 => by omega, rfl⟩
          case round =>
            obtain ⟨n, rfl, hn1, hng, hno, hwi⟩ := hrel
            have hwi' : wo = wr := hwi.symm
            subst hwi'
            clear hwi
            have HJ : Hid (∀ j (hj : j < p.size), i + 1 ≤ j → j < n → p[j] ≠ 47) := hno
            by_cases hne : n < p.size
            · by_cases h47 : p[n].toNat = 47
              · have hB2 : ((p[n].toNat : Int) != 47) = false := by rw [bne_eq_false_iff_eq]; omega
                have HC : Hid (cutL (p.data.toList.drop i) = if p[i] = 47 ∧ nameB (p.extract (i + 1) n) = true then (cutL (p.data.toList.drop n)).map (p.extract (i + 1) n :: ·) else none) := cut_at p i n (by omega) (by omega) (by omega) HJ.out (fun h => by first | (exfalso; omega) | exact UInt8.toNat_inj.1 h47)
                have hxs : (p.extract (i + 1) n).size ≤ maxLen := by rw [ByteArray.size_extract]; unfold maxLen; omega
                by_cases hi47 : p[i].toNat = 47
                · have hB3 : ((p[i].toNat : Int) != 47) = false := by rw [bne_eq_false_iff_eq]; omega
                  have HC2 : Hid (p[i] = 47) := UInt8.toNat_inj.1 hi47
                  cases hb : nameB (p.extract (i + 1) n) with
                  | false =>
                    have HV : Hid (X = ([], 1)) := by
                      have h := HC.out
                      rw [if_neg (by rw [hb]; simp)] at h
                      have h2 := HX.out
                      rw [sofar_no E.out h] at h2
                      exact h2
                    have HB : Hid (nameB (p.extract (i + 1) n) = false) := hb
                    clear HC HC2 HJ hb E HX hown hno hi47
                    go_wp2_with (go_at_call 55; refine (refName_val (p.extract (i + 1) n) false _ hxs HB.out).mono ?_; intro e w1 h; have h2 : wo = w1 := h.2.symm; have h1 := h.1; clear h; subst h2; subst h1)
                    go_ret2
                    exact ⟨SplitR.bad HV.out rfl, hbel⟩
                  | true =>
                    have HV : Hid (Sofar p (acc ++ [p.extract (i + 1) n]) (p.data.toList.drop n)) := by
                      have h := HC.out
                      rw [if_pos ⟨HC2.out, hb⟩] at h
                      exact sofar_step E.out h
                    have HB : Hid (nameB (p.extract (i + 1) n) = true) := hb
                    have hown3 := hown
                    clear HC HC2 HJ hb E hown hno hi47
                    generalize hT : p.extract (i + 1) n = T at *
                    go_wp2_with (first
                      | (go_at_call 55; refine (refName_val T true _ hxs HB.out).mono ?_; intro e w1 h; have h2 : wo = w1 := h.2.symm; have h1 := h.1; clear h; subst h2; subst h1)
                      | (at_builtin; refine wpList_append_own _ rfl _ _ 25 rfl w.heap.size 9 i0 (.string ⟨#[]⟩) 1 16 Try.underlying25 hi hz0 hz1 hz2 rfl (by decide) _ _ _ rfl (hown3.alloc _) ⟨wo.heap.size, 0, none⟩ 1 1 [.string T] rfl rfl ?c1 ?c2 ?c3 ?c4 ?c5 ?_))
                    case c1 =>
                      intro j u hj
                      match j, hj with
                      | 0, hj => simp at hj; subst hj; simp [Addr.add]
                    case c2 => intro u hu; simp at hu; subst hu; rfl
                    case c3 => unfold maxLen; omega
                    case c4 => omega
                    case c5 => simp; omega
                    · intro v' w4 hown4 hgrow _
                      have hbel4 : Below w.heap.size w w4 := by
                        refine (hbel.alloc hsz _).grown hgrow (by simp; omega) ?_
                        intro k hk
                        exact (hown3.lt k hk).1
                      have hown5 : w4.ownsRow w.heap.size 9 1 v' (acc ++ [T]).length ((acc ++ [T]).map Value.string) := by
                        simpa using hown4
                      clear hown4 hgrow hown3 hbel
                      go_wp2
                      go_roundg (p.size - n)
                      case measure => have := HG.out; omega
                      case rel => exact ⟨n, acc ++ [T], rfl, by omega, by omega, by rw [List.length_append]; simp; omega, HV.out, hown5, hbel4⟩
                · have hB3 : ((p[i].toNat : Int) != 47) = true := by rw [bne_iff_ne]; omega
                  have HV : Hid (X = ([], 1)) := by
                    have h := HC.out
                    rw [if_neg (fun g => hi47 (by rw [g.1]; rfl))] at h
                    have h2 := HX.out
                    rw [sofar_no E.out h] at h2
                    exact h2
                  clear HC HJ E HX hown hno
                  go_wp2_with (go_at_call 55; refine (refName_val (p.extract (i + 1) n) _ _ hxs rfl).mono ?_; intro e w1 h; have h2 : wo = w1 := h.2.symm; have h1 := h.1; clear h; subst h2; subst h1)
                  go_ret2
                  exact ⟨SplitR.bad HV.out rfl, hbel⟩
              · have HJ2 : Hid (∀ j (hj : j < p.size), i + 1 ≤ j → j < n + 1 → p[j] ≠ 47) := by
                  intro j hj h1 h2
                  by_cases e : j = n
                  · subst e; intro h; exact h47 (by rw [h]; rfl)
                  · exact HJ.out j hj h1 (by omega)
                have hB2 : ((p[n].toNat : Int) != 47) = true := by rw [bne_iff_ne]; omega
                clear hno HJ
                go_wp2
                go_roundg (p.size - (n + 1))
                case measure => omega
                case rel => exact ⟨n + 1, by go_num, by omega, by omega, HJ2.out, rfl⟩
            · have hB0 : ¬ ((n : Int) < (p.size : Int)) := by omega
              have HC : Hid (cutL (p.data.toList.drop i) = if p[i] = 47 ∧ nameB (p.extract (i + 1) n) = true then (cutL (p.data.toList.drop n)).map (p.extract (i + 1) n :: ·) else none) := cut_at p i n (by omega) (by omega) (by omega) HJ.out (fun h => by first | (exfalso; omega) | exact UInt8.toNat_inj.1 h47)
              have hxs : (p.extract (i + 1) n).size ≤ maxLen := by rw [ByteArray.size_extract]; unfold maxLen; omega
              by_cases hi47 : p[i].toNat = 47
              · have hB3 : ((p[i].toNat : Int) != 47) = false := by rw [bne_eq_false_iff_eq]; omega
                have HC2 : Hid (p[i] = 47) := UInt8.toNat_inj.1 hi47
                cases hb : nameB (p.extract (i + 1) n) with
                | false =>
                  have HV : Hid (X = ([], 1)) := by
                    have h := HC.out
                    rw [if_neg (by rw [hb]; simp)] at h
                    have h2 := HX.out
                    rw [sofar_no E.out h] at h2
                    exact h2
                  have HB : Hid (nameB (p.extract (i + 1) n) = false) := hb
                  clear HC HC2 HJ hb E HX hown hno hi47
                  go_wp2_with (go_at_call 55; refine (refName_val (p.extract (i + 1) n) false _ hxs HB.out).mono ?_; intro e w1 h; have h2 : wo = w1 := h.2.symm; have h1 := h.1; clear h; subst h2; subst h1)
                  go_ret2
                  exact ⟨SplitR.bad HV.out rfl, hbel⟩
                | true =>
                  have HV : Hid (Sofar p (acc ++ [p.extract (i + 1) n]) (p.data.toList.drop n)) := by
                    have h := HC.out
                    rw [if_pos ⟨HC2.out, hb⟩] at h
                    exact sofar_step E.out h
                  have HB : Hid (nameB (p.extract (i + 1) n) = true) := hb
                  have hown3 := hown
                  clear HC HC2 HJ hb E hown hno hi47
                  generalize hT : p.extract (i + 1) n = T at *
                  go_wp2_with (first
                    | (go_at_call 55; refine (refName_val T true _ hxs HB.out).mono ?_; intro e w1 h; have h2 : wo = w1 := h.2.symm; have h1 := h.1; clear h; subst h2; subst h1)
                    | (at_builtin; refine wpList_append_own _ rfl _ _ 25 rfl w.heap.size 9 i0 (.string ⟨#[]⟩) 1 16 Try.underlying25 hi hz0 hz1 hz2 rfl (by decide) _ _ _ rfl (hown3.alloc _) ⟨wo.heap.size, 0, none⟩ 1 1 [.string T] rfl rfl ?c1 ?c2 ?c3 ?c4 ?c5 ?_))
                  case c1 =>
                    intro j u hj
                    match j, hj with
                    | 0, hj => simp at hj; subst hj; simp [Addr.add]
                  case c2 => intro u hu; simp at hu; subst hu; rfl
                  case c3 => unfold maxLen; omega
                  case c4 => omega
                  case c5 => simp; omega
                  · intro v' w4 hown4 hgrow _
                    have hbel4 : Below w.heap.size w w4 := by
                      refine (hbel.alloc hsz _).grown hgrow (by simp; omega) ?_
                      intro k hk
                      exact (hown3.lt k hk).1
                    have hown5 : w4.ownsRow w.heap.size 9 1 v' (acc ++ [T]).length ((acc ++ [T]).map Value.string) := by
                      simpa using hown4
                    clear hown4 hgrow hown3 hbel
                    go_wp2
                    go_roundg (p.size - n)
                    case measure => have := HG.out; omega
                    case rel => exact ⟨n, acc ++ [T], rfl, by omega, by omega, by rw [List.length_append]; simp; omega, HV.out, hown5, hbel4⟩
              · have hB3 : ((p[i].toNat : Int) != 47) = true := by rw [bne_iff_ne]; omega
                have HV : Hid (X = ([], 1)) := by
                  have h := HC.out
                  rw [if_neg (fun g => hi47 (by rw [g.1]; rfl))] at h
                  have h2 := HX.out
                  rw [sofar_no E.out h] at h2
                  exact h2
                clear HC HJ E HX hown hno
                go_wp2_with (go_at_call 55; refine (refName_val (p.extract (i + 1) n) _ _ hxs rfl).mono ?_; intro e w1 h; have h2 : wo = w1 := h.2.symm; have h1 := h.1; clear h; subst h2; subst h1)
                go_ret2
                exact ⟨SplitR.bad HV.out rfl, hbel⟩
        · have HL : Hid (p.data.toList.drop i = []) := List.drop_of_length_le (by rw [list_sz]; omega)
          have HCC : Hid (cutL p.data.toList = some acc) := by have h := E.out; rw [HL.out] at h; exact sofar_end h
          have HSM : Hid (∀ x ∈ acc, x.size ≤ 20) := cut_small HCC.out
          have HC2 : Hid (X = if acc.length = 0 then ([], 1) else if 6 < acc.length then ([], 4) else (acc, 0)) := by have h := HX.out; rw [HCC.out] at h; exact h
          obtain ⟨a, cap, rfl⟩ := own_sl hown
          clear E HX HL HCC
          by_cases h0 : acc.length = 0
          · have HV : Hid (X = ([], 1)) := by have h := HC2.out; rw [if_pos h0] at h; exact h
            clear HC2 hown
            go_wp2
            go_ret2
            exact ⟨SplitR.bad HV.out rfl, hbel⟩
          · by_cases h6 : 6 < acc.length
            · have HV : Hid (X = ([], 4)) := by have h := HC2.out; rw [if_neg h0, if_pos h6] at h; exact h
              clear HC2 hown
              go_wp2
              go_ret2
              exact ⟨SplitR.bad HV.out rfl, hbel⟩
            · have HV : Hid (X = (acc, 0)) := by have h := HC2.out; rw [if_neg h0, if_neg h6] at h; exact h
              clear HC2
              go_wp2
              go_ret2
              exact ⟨SplitR.good HV.out rfl hown (by omega) HSM.out, hbel⟩

end Go.Proofs.Ytlfehfajaelmlaa
