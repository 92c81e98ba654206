/- Part 9 of the proof: PathF1, PathF2, PathF3, PathRN, PathRS. -/
import Derived.Test.YtigomhilcnnjdaaGreatB00
import Derived.Test.YtigomhilcnnjdaaGreatB08
import Derived.Below
import Derived.BigQuiet
import Derived.BigRegion
import Derived.Deep.LoopGhost
import Derived.Deep.QuietTactic
import Derived.Deep.RegionWith
import Derived.Lib.QuietBelow
import Derived.OwnWalk
import Derived.Test.YtigomhilcnnjdaaGreatProg
import Derived.Test.YtigomhilcnnjdaaGreatRows
import Derived.WalkKit
import Derived.WalkLawsBesides
import Derived.WalkSpells

/- The contracts of path.inName, path.Name and tabulariumref06.Name. -/
namespace Go.Proofs.YtigomhilcnnjdaaGreat
open Go.RowKit

theorem bel_trans {a b c : World} (h : Below a.heap.size a b) (k : Below b.heap.size b c) : Below a.heap.size a c := h.trans (k.mono h.size)
theorem bel_drewN (w : World) (n : Nat) : Below w.heap.size w (w.drewN n) := below_drewN (Below.refl _ _) n

set_option maxRecDepth 100000 in
set_option maxHeartbeats 400000 in
theorem inName_val (b : UInt8) (v : Bool) (w : World) (hv : inN b = v) :
    Calls Tryz.prog 117 #[.int .u8 (b.toNat : Int)] w fun e w' => e = .returned (.bool v) ∧ w' = w := by
  subst hv
  unfold inN
  have hb : b.toNat < 256 := b.toNat_lt
  generalize b.toNat = n at *
  go_enter Tryz.func117, Tryz.ntmps117
  go_wp2
  all_goals go_ret
  all_goals (refine ⟨congrArg (fun b => Ending.returned (Value.bool b)) ?_, rfl⟩; rw [Bool.eq_iff_iff])
  all_goals (first | (simp; done) | (simp; omega))

theorem nameB_early {s : ByteArray} (h : ¬ (1 ≤ s.size ∧ s.size ≤ 20 ∧ (s.toList == [46]) = false ∧ (s.toList == [46, 46]) = false)) : nameB s = false := by
  unfold nameB nameL
  rw [list_sz, ← Lib.toList_data]
  rw [Bool.eq_false_iff]
  intro e
  simp only [Bool.and_eq_true, decide_eq_true_eq, Bool.not_eq_true'] at e
  exact h ⟨e.1.1.1.1, e.1.1.1.2, e.1.1.2, e.1.2⟩

theorem nameB_late {s : ByteArray} (h : 1 ≤ s.size ∧ s.size ≤ 20 ∧ (s.toList == [46]) = false ∧ (s.toList == [46, 46]) = false) : nameB s = s.data.toList.all inN := by
  unfold nameB nameL
  rw [list_sz, ← Lib.toList_data, h.2.2.1, h.2.2.2]
  simp [h.1, h.2.1]

theorem all_step {s : ByteArray} {k : Nat} (hk : k < s.size) : (s.data.toList.drop k).all inN = (inN s[k] && (s.data.toList.drop (k + 1)).all inN) := by
  have hl : k < s.data.toList.length := by rw [list_sz]; exact hk
  rw [List.drop_eq_getElem_cons hl, List.all_cons]
  rfl

set_option maxRecDepth 100000 in
set_option maxHeartbeats 400000 in
theorem name_val (s : ByteArray) (v : Bool) (w : World) (hs : s.size ≤ maxLen) (hv : nameB s = v) :
    Calls Tryz.prog 102 #[.string s] w fun e w' => e = .returned (.bool v) ∧ w' = w := by
  have hs2 : s.size ≤ 9223372036854775807 := by unfold maxLen at hs; omega
  have HV : Hid (nameB s = v) := hv
  clear hv hs
  by_cases h : 1 ≤ s.size ∧ s.size ≤ 20 ∧ (s.toList == [46]) = false ∧ (s.toList == [46, 46]) = false
  · have HA : Hid (s.data.toList.all inN = v) := (nameB_late h).symm.trans HV.out
    obtain ⟨h1, h2, h3, h4⟩ := h
    clear HV
    go_enter Tryz.func102, Tryz.ntmps102
    go_wp2
    go_loop [22] (fun i => ∃ k : Nat, k ≤ s.size ∧ i = .int .i64 k ∧ (s.data.toList.drop k).all inN = v) (fun i => s.size - (intOf i).toNat)
    case atStart => exact ⟨0, by omega, rfl, HA.out⟩
    case round =>
      obtain ⟨k, hk, rfl, hA⟩ := hrel
      have E : Hid ((s.data.toList.drop k).all inN = v) := hA
      clear hA HA
      by_cases hlt : k < s.size
      · have HS : Hid ((s.data.toList.drop k).all inN = (inN s[k] && (s.data.toList.drop (k + 1)).all inN)) := all_step hlt
        cases hb : inN s[k] with
        | false =>
          have HV : Hid (false = v) := by have h := E.out; rw [HS.out, hb] at h; exact h
          clear E HS
          go_wp2_with (go_at_call 117; refine (inName_val s[k] false _ hb).mono ?_; rintro e w1 ⟨rfl, rfl⟩)
          go_ret
          exact ⟨by rw [← HV.out]; rfl, rfl⟩
        | true =>
          have HV : Hid ((s.data.toList.drop (k + 1)).all inN = v) := by have h := E.out; rw [HS.out, hb] at h; exact h
          clear E HS
          go_wp2_with (go_at_call 117; refine (inName_val s[k] true _ hb).mono ?_; rintro e w1 ⟨rfl, rfl⟩)
          go_round
          case rel => exact ⟨k + 1, by omega, by go_num, HV.out⟩
          case measure => simp [intOf]; omega
      · have hkn : k = s.size := by omega
        have HV : Hid (true = v) := by have h := E.out; rw [hkn, ← list_sz, List.drop_length] at h; exact h
        clear E
        go_wp2
        go_ret
        exact ⟨by rw [← HV.out]; rfl, rfl⟩
  · have HF : Hid (false = v) := (nameB_early h).symm.trans HV.out
    have HH : Hid _ := h
    clear h HV
    go_enter Tryz.func102, Tryz.ntmps102
    go_wp2
    all_goals (first
      | (go_ret; exact ⟨by rw [← HF.out]; rfl, rfl⟩)
      | (refine absurd ?_ HH.out; refine ⟨by omega, by omega, ?_, ?_⟩ <;> simp_all))

end Go.Proofs.YtigomhilcnnjdaaGreat

/- The contract of path.cut. -/
namespace Go.Proofs.YtigomhilcnnjdaaGreat
open Go.RowKit

theorem Tryz.infoStr : (Tryz.prog.info? 9).map (fun i => (i.zero, i.size, i.bytes)) = some (some (.string ⟨#[]⟩), 1, 16) := by kernel_rfl

theorem info_parts {t : TypeId} {z : Value} {n m : Nat} (h : (Tryz.prog.info? t).map (fun i => (i.zero, i.size, i.bytes)) = some (some z, n, m)) : ∃ i0, Tryz.prog.info? t = some i0 ∧ i0.zero = some z ∧ i0.size = n ∧ i0.bytes = m := by
  obtain ⟨i0, hi, hx⟩ := Option.map_eq_some_iff.1 h
  simp only [Prod.mk.injEq] at hx
  exact ⟨i0, hi, hx.1, hx.2.1, hx.2.2⟩

theorem get_list (s : ByteArray) (k : Nat) (hk : k < s.size) : s.data.toList[k]'(by rw [list_sz]; exact hk) = s[k] := rfl

theorem empty_eq (r : ByteArray) : r.toList.isEmpty = decide (r.size = 0) := by
  rw [Lib.toList_data, ← list_sz]
  cases r.data.toList <;> simp

theorem own_sl {w : World} {base : Nat} {e : TypeId} {v : Value} {n : Nat} {xs : List Value} (h : w.ownsRow base e 1 v n xs) : ∃ a cap, v = .slice a n cap := by
  rcases h.2 with ⟨rfl, h0⟩ | ⟨g, cap, cur, rfl, _⟩
  · exact ⟨none, 0, by rw [h0]⟩
  · exact ⟨_, cap, rfl⟩

/-- One name is found. -/
theorem cut_at (p : ByteArray) (i n : Nat) (hi : i < p.size) (hn1 : i + 1 ≤ n) (hn2 : n ≤ p.size) (hno : ∀ j (hj : j < p.size), i + 1 ≤ j → j < n → p[j] ≠ 47) (he : ∀ h : n < p.size, p[n] = 47) :
    cutL (p.data.toList.drop i) = if p[i] = 47 ∧ nameB (p.extract (i + 1) n) = true then (cutL (p.data.toList.drop n)).map (p.extract (i + 1) n :: ·) else none := by
  have hl : i < p.data.toList.length := by rw [list_sz]; exact hi
  have hlen : (p.data.toList.drop (i + 1)).length = p.size - (i + 1) := by rw [List.length_drop, list_sz]
  obtain ⟨e1, e2⟩ := ahead_at (p.data.toList.drop (i + 1)) (n - (i + 1)) (fun j hj hjn => by
    rw [List.getElem_drop]
    exact hno (i + 1 + j) (by omega) (by omega) (by omega)) (by omega) (fun h => by
    rw [List.getElem_drop]
    have := he (by omega)
    have e : i + 1 + (n - (i + 1)) = n := by omega
    simp only [e]
    exact this)
  have e3 : ahead (p.data.toList.drop (i + 1)) = (p.extract (i + 1) n).data.toList := by rw [e1, ext_li]
  have e4 : rest (p.data.toList.drop (i + 1)) = p.data.toList.drop n := by rw [e2, List.drop_drop]; congr 1; omega
  rw [List.drop_eq_getElem_cons hl, get_list p i hi, cutL, e3, e4, mk_of]
  rfl

theorem cut_first {p : ByteArray} (h0 : 0 < p.size) (h : p[0] ≠ 47) : cutL p.data.toList = none := by
  have hl : 0 < p.data.toList.length := by rw [list_sz]; exact h0
  have e := List.drop_eq_getElem_cons hl
  rw [List.drop_zero, get_list p 0 h0] at e
  rw [e]
  exact cutL_no (fun g => h g.1)

/-- What is found so far: the names acc, and what is left. -/
def Sofar (p : ByteArray) (acc : List ByteArray) (l : List UInt8) : Prop := cutL p.data.toList = (cutL l).map (acc ++ ·)

theorem sofar_start (p : ByteArray) : Sofar p [] p.data.toList := by
  unfold Sofar; cases cutL p.data.toList <;> simp
theorem sofar_step {p : ByteArray} {acc : List ByteArray} {l l' : List UInt8} {t : ByteArray} (h : Sofar p acc l) (e : cutL l = (cutL l').map (t :: ·)) : Sofar p (acc ++ [t]) l' := by
  unfold Sofar at *
  rw [h, e, Option.map_map]
  congr 1
  funext x
  simp
theorem sofar_no {p : ByteArray} {acc : List ByteArray} {l : List UInt8} (h : Sofar p acc l) (e : cutL l = none) : cutL p.data.toList = none := by
  unfold Sofar at h; rw [h, e]; rfl
theorem sofar_end {p : ByteArray} {acc : List ByteArray} (h : Sofar p acc []) : cutL p.data.toList = some acc := by
  unfold Sofar at h; rw [h, cutL_nil]; simp

/-- How cut ends. -/
def CutEnds (base : Nat) (M : Option (List ByteArray)) (e : Ending) (w' : World) : Prop := match M with
  | none => e = .returned (.tuple #[.slice none 0 0, .bool false])
  | some ss => ∃ v, e = .returned (.tuple #[v, .bool (decide (0 < ss.length))]) ∧ w'.ownsRow base 9 1 v ss.length (ss.map Value.string) ∧ ss.length ≤ 120
theorem CutEnds.none' {base : Nat} {M : Option (List ByteArray)} {e : Ending} {w' : World} (hM : M = none) (he : e = .returned (.tuple #[.slice none 0 0, .bool false])) : CutEnds base M e w' := by
  subst hM; exact he
theorem CutEnds.some' {base : Nat} {M : Option (List ByteArray)} {e : Ending} {w' : World} {v : Value} {ss : List ByteArray} (hM : M = some ss) (he : e = .returned (.tuple #[v, .bool (decide (0 < ss.length))]))
    (ho : w'.ownsRow base 9 1 v ss.length (ss.map Value.string)) (hl : ss.length ≤ 120) : CutEnds base M e w' := by
  subst hM; exact ⟨v, he, ho, hl⟩

set_option maxRecDepth 100000 in
set_option maxHeartbeats 2000000 in
theorem cut_any (p : ByteArray) (w : World) (hp : p.size ≤ 120) :
    Calls Tryz.prog 101 #[.string p] w fun e w' => CutEnds w.heap.size (cutL p.data.toList) e w' ∧ Below w.heap.size w w' := by
  obtain ⟨i0, hi, hz0, hz1, hz2⟩ := info_parts Tryz.infoStr
  obtain ⟨M, hM⟩ : ∃ M, cutL p.data.toList = M := ⟨_, rfl⟩
  rw [hM]
  have HM : Hid (cutL p.data.toList = M) := hM
  clear hM
  go_enter Tryz.func101, Tryz.ntmps101
  go_wp2
  go_step3
  go_wp2
  go_step3
  go_wp2
  go_loopg [0, 4] p.size (fun g s v wr => ∃ (rr : ByteArray) (acc : List ByteArray), s = .string rr ∧ rr.size = g ∧ acc.length + rr.size ≤ p.size ∧ Sofar p acc rr.data.toList ∧
      wr.ownsRow w.heap.size 9 1 v acc.length (acc.map Value.string) ∧ Below w.heap.size w wr)
  case atStart => exact ⟨p, [], rfl, rfl, by simp, sofar_start p, World.ownsRow_nil _ _ _ _, Below.refl _ _⟩
  case round =>
    obtain ⟨rr, acc, rfl, hg, hle, hE, hown, hbel⟩ := hrel
    have HG : Hid (rr.size = gk) := hg
    have E : Hid (Sofar p acc rr.data.toList) := hE
    have hsz := hbel.size
    have hem := empty_eq rr
    clear hg hE
    by_cases h0 : rr.size = 0
    · have HV : Hid (M = some acc) := by
        have hl : rr.data.toList = [] := List.length_eq_zero_iff.1 (by rw [list_sz]; exact h0)
        have h := E.out
        rw [hl] at h
        exact HM.out.symm.trans (sofar_end h)
      simp only [h0, decide_true] at hem
      have HL : Hid (acc.length ≤ 120) := by show _ ≤ _; omega
      rcases own_sl hown with ⟨a, cap, rfl⟩
      clear E HM
      go_wp2
      all_goals (first | rw [Exit.noGoto_ret] | skip)
      go_ret2
      exact ⟨CutEnds.some' HV.out rfl hown HL.out, hbel⟩
    · simp only [h0, decide_false] at hem
      have hpos : 0 < rr.size := by omega
      by_cases h47 : rr[0].toNat = 47
      · have H47 : Hid (rr[0].toNat = (47 : UInt8).toNat) := h47
        have hI : (rr[0].toNat : Int) = 47 := by omega
        go_wp2
        rename World => wo
        go_loopg [0, 4, 5] (rr.size - 1) (fun g s v c wi => ∃ n : Nat, s = .string rr ∧ v = u4 ∧ c = .int .i64 n ∧ 1 ≤ n ∧ n + g = rr.size ∧ (∀ j (hj : j < rr.size), 1 ≤ j → j < n → rr[j] ≠ 47) ∧ wi = wo)
        case atStart => exact ⟨1, rfl, rfl, rfl, by omega, by omega, fun j hj h1 h2 => by omega, rfl⟩
        case round =>
          obtain ⟨n, rfl, rfl, rfl, hn1, hng, hno, hwi⟩ := hrel
          have hwi' : wo = wr := hwi.symm
          subst hwi'
          clear hwi
          have HJ : Hid (∀ j (hj : j < rr.size), 1 ≤ j → j < n → rr[j] ≠ 47) := hno
          by_cases hne : n < rr.size
          · by_cases h47 : rr[n].toNat = 47
            · have hB1 : ((n : Int) == (rr.size : Int)) = false := by rw [beq_eq_false_iff_ne]; omega
              have hB2 : ((rr[n].toNat : Int) == 47) = true := by rw [beq_iff_eq]; omega
              have HC : Hid (cutL rr.data.toList = if rr[0] = 47 ∧ nameB (rr.extract (0 + 1) n) = true then (cutL (rr.data.toList.drop n)).map (rr.extract (0 + 1) n :: ·) else none) := cut_at rr 0 n (by omega) (by omega) (by omega) (fun j hj h1 h2 => HJ.out j hj (by omega) h2) (fun h => by first | (exfalso; omega) | exact UInt8.toNat_inj.1 h47)
              have HC2 : Hid (rr[0] = 47) := UInt8.toNat_inj.1 H47.out
              have hxs : (rr.extract 1 n).size ≤ maxLen := by rw [ByteArray.size_extract]; unfold maxLen; omega
              cases hb : nameB (rr.extract 1 n) with
              | false =>
                have HV : Hid (M = none) := by
                  have h := HC.out
                  rw [if_neg (by rw [Nat.zero_add, hb]; simp)] at h
                  exact HM.out.symm.trans (sofar_no E.out h)
                have HB : Hid (nameB (rr.extract 1 n) = false) := hb
                clear HC HC2 HJ hb E HM hown hno
                go_wp2_with (go_at_call 102; refine (name_val (rr.extract 1 n) false _ hxs HB.out).mono ?_; rintro e w1 ⟨rfl, rfl⟩)
                all_goals (first | rw [Exit.noGoto_ret] | skip)
                go_ret2
                exact ⟨CutEnds.none' HV.out rfl, hbel⟩
              | true =>
                have HV : Hid (Sofar p (acc ++ [rr.extract 1 n]) (rr.extract n rr.size).data.toList) := by
                  have h := HC.out
                  rw [if_pos ⟨HC2.out, by rw [Nat.zero_add]; exact hb⟩, Nat.zero_add] at h
                  rw [ext_to]
                  exact sofar_step E.out h
                have HS2 : Hid ((rr.extract n rr.size).size = rr.size - n) := by show _ = _; rw [ByteArray.size_extract]; omega
                have HB : Hid (nameB (rr.extract 1 n) = true) := hb
                have hown3 := hown
                clear HC HC2 HJ hb E HM hown hno
                generalize hT : rr.extract 1 n = T at *
                have HT : Hid (rr.extract 1 n = T) := hT
                clear HT
                go_wp2_with (first
                  | (go_at_call 102; refine (name_val T true _ hxs HB.out).mono ?_; intro e w1 h; have h2 : wo = w1 := h.2.symm; have h1 := h.1; clear h; subst h2; subst h1)
                  | (at_builtin; go_loud (refine wpList_append_own _ rfl _ _ 37 rfl w.heap.size 9 i0 (.string ⟨#[]⟩) 1 16 Tryz.underlying37 hi hz0 hz1 hz2 rfl (by decide) _ _ _ rfl (hown3.alloc _) ⟨wo.heap.size, 0, none⟩ 1 1 [.string T] rfl rfl ?c1 ?c2 ?c3 ?c4 ?c5 ?_)))
                case c1 =>
                  intro j u hj
                  match j, hj with
                  | 0, hj => simp at hj; subst hj; simp [Addr.add]
                case c2 => intro u hu; simp at hu; subst hu; rfl
                case c3 => unfold maxLen; omega
                case c4 => omega
                case c5 => simp; omega
                · intro v' w4 hown4 hgrow _
                  have hbel4 : Below w.heap.size w w4 := by
                    refine (hbel.alloc hsz _).grown hgrow (by simp; omega) ?_
                    intro k hk
                    exact (hown3.lt k hk).1
                  have hown5 : w4.ownsRow w.heap.size 9 1 v' (acc ++ [T]).length ((acc ++ [T]).map Value.string) := by
                    simpa using hown4
                  clear hown4 hgrow hown3 hbel
                  go_wp2
                  go_roundg (rr.size - n)
                  case measure => have := HG.out; omega
                  case rel => exact ⟨_, acc ++ [T], rfl, HS2.out, by rw [HS2.out, List.length_append]; simp; omega, HV.out, hown5, hbel4⟩
            · have HJ2 : Hid (∀ j (hj : j < rr.size), 1 ≤ j → j < n + 1 → rr[j] ≠ 47) := by
                intro j hj h1 h2
                by_cases e : j = n
                · subst e; intro h; exact h47 (by rw [h]; rfl)
                · exact HJ.out j hj h1 (by omega)
              have hB1 : ((n : Int) == (rr.size : Int)) = false := by rw [beq_eq_false_iff_ne]; omega
              have hB2 : ((rr[n].toNat : Int) == 47) = false := by rw [beq_eq_false_iff_ne]; omega
              clear hno HJ
              go_wp2
              go_roundg (rr.size - (n + 1))
              case measure => omega
              case rel => exact ⟨n + 1, rfl, rfl, by go_num, by omega, by omega, HJ2.out, rfl⟩
          · have hB1 : ((n : Int) == (rr.size : Int)) = true := by rw [beq_iff_eq]; omega
            have HC : Hid (cutL rr.data.toList = if rr[0] = 47 ∧ nameB (rr.extract (0 + 1) n) = true then (cutL (rr.data.toList.drop n)).map (rr.extract (0 + 1) n :: ·) else none) := cut_at rr 0 n (by omega) (by omega) (by omega) (fun j hj h1 h2 => HJ.out j hj (by omega) h2) (fun h => by first | (exfalso; omega) | exact UInt8.toNat_inj.1 h47)
            have HC2 : Hid (rr[0] = 47) := UInt8.toNat_inj.1 H47.out
            have hxs : (rr.extract 1 n).size ≤ maxLen := by rw [ByteArray.size_extract]; unfold maxLen; omega
            cases hb : nameB (rr.extract 1 n) with
            | false =>
              have HV : Hid (M = none) := by
                have h := HC.out
                rw [if_neg (by rw [Nat.zero_add, hb]; simp)] at h
                exact HM.out.symm.trans (sofar_no E.out h)
              have HB : Hid (nameB (rr.extract 1 n) = false) := hb
              clear HC HC2 HJ hb E HM hown hno
              go_wp2_with (go_at_call 102; refine (name_val (rr.extract 1 n) false _ hxs HB.out).mono ?_; rintro e w1 ⟨rfl, rfl⟩)
              all_goals (first | rw [Exit.noGoto_ret] | skip)
              go_ret2
              exact ⟨CutEnds.none' HV.out rfl, hbel⟩
            | true =>
              have HV : Hid (Sofar p (acc ++ [rr.extract 1 n]) (rr.extract n rr.size).data.toList) := by
                have h := HC.out
                rw [if_pos ⟨HC2.out, by rw [Nat.zero_add]; exact hb⟩, Nat.zero_add] at h
                rw [ext_to]
                exact sofar_step E.out h
              have HS2 : Hid ((rr.extract n rr.size).size = rr.size - n) := by show _ = _; rw [ByteArray.size_extract]; omega
              have HB : Hid (nameB (rr.extract 1 n) = true) := hb
              have hown3 := hown
              clear HC HC2 HJ hb E HM hown hno
              generalize hT : rr.extract 1 n = T at *
              have HT : Hid (rr.extract 1 n = T) := hT
              clear HT
              go_wp2_with (first
                | (go_at_call 102; refine (name_val T true _ hxs HB.out).mono ?_; intro e w1 h; have h2 : wo = w1 := h.2.symm; have h1 := h.1; clear h; subst h2; subst h1)
                | (at_builtin; go_loud (refine wpList_append_own _ rfl _ _ 37 rfl w.heap.size 9 i0 (.string ⟨#[]⟩) 1 16 Tryz.underlying37 hi hz0 hz1 hz2 rfl (by decide) _ _ _ rfl (hown3.alloc _) ⟨wo.heap.size, 0, none⟩ 1 1 [.string T] rfl rfl ?c1 ?c2 ?c3 ?c4 ?c5 ?_)))
              case c1 =>
                intro j u hj
                match j, hj with
                | 0, hj => simp at hj; subst hj; simp [Addr.add]
              case c2 => intro u hu; simp at hu; subst hu; rfl
              case c3 => unfold maxLen; omega
              case c4 => omega
              case c5 => simp; omega
              · intro v' w4 hown4 hgrow _
                have hbel4 : Below w.heap.size w w4 := by
                  refine (hbel.alloc hsz _).grown hgrow (by simp; omega) ?_
                  intro k hk
                  exact (hown3.lt k hk).1
                have hown5 : w4.ownsRow w.heap.size 9 1 v' (acc ++ [T]).length ((acc ++ [T]).map Value.string) := by
                  simpa using hown4
                clear hown4 hgrow hown3 hbel
                go_wp2
                go_roundg (rr.size - n)
                case measure => have := HG.out; omega
                case rel => exact ⟨_, acc ++ [T], rfl, HS2.out, by rw [HS2.out, List.length_append]; simp; omega, HV.out, hown5, hbel4⟩
      · have HV : Hid (M = none) := HM.out.symm.trans (sofar_no E.out (cut_first hpos (fun e => h47 (by rw [e]; rfl))))
        clear E HM hown
        go_wp2
        all_goals (first | rw [Exit.noGoto_ret] | skip)
        go_ret2
        exact ⟨CutEnds.none' HV.out rfl, hbel⟩

end Go.Proofs.YtigomhilcnnjdaaGreat

/- The contract of path.Split. -/
namespace Go.Proofs.YtigomhilcnnjdaaGreat
open Go.RowKit

theorem splitX_long {p : ByteArray} (h : 120 < p.size) : splitX p = ([], 4) := if_pos h
theorem splitX_root {p : ByteArray} (h : (p.toList == [47]) = true) : splitX p = ([], 0) := by
  have e : p.data.toList = [47] := by rw [← Lib.toList_data]; exact beq_iff_eq.1 h
  have hs : p.size = 1 := by rw [← list_sz, e]; rfl
  unfold splitX
  rw [if_neg (by omega), if_pos e]
/-- What is made of cut's answer. -/
def splitC : Option (List ByteArray) → List ByteArray × Int
  | none => ([], 1)
  | some ns => if ns.length = 0 then ([], 1) else if 6 < ns.length then ([], 4) else (ns, 0)
theorem splitX_cut {p : ByteArray} (h1 : p.size ≤ 120) (h2 : (p.toList == [47]) = false) : splitX p = splitC (cutL p.data.toList) := by
  have e : ¬ p.data.toList = [47] := by rw [← Lib.toList_data]; exact fun e => by rw [e] at h2; cases h2
  unfold splitX
  rw [if_neg (by omega), if_neg e]
  cases cutL p.data.toList <;> rfl

/-- How Split ends: names and an error. -/
structure SplitR (base : Nat) (X : List ByteArray × Int) (e : Ending) (w' : World) : Prop where
  ends : ∃ v, e = .returned (.tuple #[v, .int .i64 X.2]) ∧ w'.ownsRow base 9 1 v X.1.length (X.1.map Value.string)
  few : X.1.length ≤ 6
  small : ∀ x ∈ X.1, x.size ≤ 20

theorem SplitR.bad {base : Nat} {X : List ByteArray × Int} {e : Ending} {w' : World} {E : Int} (hX : X = ([], E)) (he : e = .returned (.tuple #[.slice none 0 0, .int .i64 E])) : SplitR base X e w' := by
  subst hX
  exact ⟨⟨_, he, World.ownsRow_nil _ _ _ _⟩, by simp, by simp⟩

theorem cut_small {l : List UInt8} {ns : List ByteArray} (h : cutL l = some ns) : ∀ x ∈ ns, x.size ≤ 20 := fun x hx => by
  have := nameL_len ((cut_sound _ _ _ (Nat.le_refl _) h).2 x hx)
  rw [list_sz] at this; exact this.2

theorem SplitR.good {base : Nat} {X : List ByteArray × Int} {e : Ending} {w' : World} {v : Value} {ns : List ByteArray} (hX : X = (ns, 0)) (he : e = .returned (.tuple #[v, .int .i64 0])) (ho : w'.ownsRow base 9 1 v ns.length (ns.map Value.string)) (hl : ns.length ≤ 6) (hx : ∀ x ∈ ns, x.size ≤ 20) : SplitR base X e w' := by
  subst hX
  exact ⟨⟨_, he, ho⟩, hl, hx⟩

set_option maxRecDepth 100000 in
set_option maxHeartbeats 400000 in
theorem split_any (p : ByteArray) (X : List ByteArray × Int) (w : World) (hs : p.size ≤ maxLen) (hX : splitX p = X) :
    Calls Tryz.prog 91 #[.string p] w fun e w' => SplitR w.heap.size X e w' ∧ Below w.heap.size w w' := by
  have hs2 : p.size ≤ 9223372036854775807 := by unfold maxLen at hs; omega
  have HX : Hid (splitX p = X) := hX
  clear hX hs
  by_cases h1 : 120 < p.size
  · have HV : Hid (X = ([], 4)) := HX.out.symm.trans (splitX_long h1)
    go_enter Tryz.func91, Tryz.ntmps91
    go_wp2
    go_ret2
    exact ⟨SplitR.bad HV.out rfl, Below.refl _ _⟩
  · cases h2 : p.toList == [47] with
    | true =>
      have HV : Hid (X = ([], 0)) := HX.out.symm.trans (splitX_root h2)
      go_enter Tryz.func91, Tryz.ntmps91
      go_wp2
      go_ret2
      exact ⟨SplitR.bad HV.out rfl, Below.refl _ _⟩
    | false =>
      have HC : Hid (splitX p = _) := splitX_cut (by omega) h2
      have HP : Hid (p.size ≤ 120) := by show _ ≤ _; omega
      cases hc : cutL p.data.toList with
      | none =>
        have HV : Hid (X = ([], 1)) := by have h := HC.out; rw [hc] at h; exact HX.out.symm.trans h
        have HCC : Hid (cutL p.data.toList = none) := hc
        clear HC hc
        go_enter Tryz.func91, Tryz.ntmps91
        go_wp2_with fail
        refine (cut_any p _ HP.out).mono ?_
        rintro e w1 ⟨c1, b1⟩
        rw [HCC.out] at c1
        obtain rfl := c1
        go_wp2
        go_ret2
        exact ⟨SplitR.bad HV.out rfl, b1⟩
      | some ns =>
        have HCC : Hid (cutL p.data.toList = some ns) := hc
        have HSM : Hid (∀ x ∈ ns, x.size ≤ 20) := cut_small hc
        have HC2 : Hid (X = if ns.length = 0 then ([], 1) else if 6 < ns.length then ([], 4) else (ns, 0)) := by have h := HC.out; rw [hc] at h; exact HX.out.symm.trans h
        clear HC hc HX
        go_enter Tryz.func91, Tryz.ntmps91
        go_wp2_with fail
        refine (cut_any p _ HP.out).mono ?_
        rintro e w1 ⟨c1, b1⟩
        rw [HCC.out] at c1
        obtain ⟨v, rfl, ho, hl⟩ := c1
        obtain ⟨a, cap, rfl⟩ := own_sl ho
        by_cases h0 : ns.length = 0
        · have HV : Hid (X = ([], 1)) := by have h := HC2.out; rw [if_pos h0] at h; exact h
          have h0' : decide (0 < ns.length) = false := by simp [h0]
          clear HC2 h0 ho
          go_wp2
          go_ret2
          exact ⟨SplitR.bad HV.out rfl, b1⟩
        · have h0' : decide (0 < ns.length) = true := by simp; omega
          by_cases h6 : 6 < ns.length
          · have HV : Hid (X = ([], 4)) := by have h := HC2.out; rw [if_neg h0, if_pos h6] at h; exact h
            clear HC2 ho
            go_wp2
            go_ret2
            exact ⟨SplitR.bad HV.out rfl, b1⟩
          · have HV : Hid (X = (ns, 0)) := by have h := HC2.out; rw [if_neg h0, if_neg h6] at h; exact h
            clear HC2
            go_wp2
            go_ret2
            exact ⟨SplitR.good HV.out rfl ho (by omega) HSM.out, b1⟩

end Go.Proofs.YtigomhilcnnjdaaGreat

/- The contract of tabulariumref06.Name. -/
namespace Go.Proofs.YtigomhilcnnjdaaGreat
open Go.RowKit

theorem inN_iff (b : UInt8) : inN b = true ↔ ((97 ≤ b.toNat ∧ b.toNat ≤ 122) ∨ (48 ≤ b.toNat ∧ b.toNat ≤ 57) ∨ b.toNat = 46 ∨ b.toNat = 95 ∨ b.toNat = 45) := by
  unfold inN
  simp only [Bool.or_eq_true, Bool.and_eq_true, decide_eq_true_eq, beq_iff_eq, or_assoc]

set_option maxRecDepth 100000 in
set_option maxHeartbeats 400000 in
theorem refName_val (s : ByteArray) (v : Bool) (w : World) (hs : s.size ≤ maxLen) (hv : nameB s = v) :
    Calls Tryz.prog 116 #[.string s] w fun e w' => e = .returned (.bool v) ∧ w' = w := by
  have hs2 : s.size ≤ 9223372036854775807 := by unfold maxLen at hs; omega
  have HV : Hid (nameB s = v) := hv
  clear hv hs
  by_cases h : 1 ≤ s.size ∧ s.size ≤ 20 ∧ (s.toList == [46]) = false ∧ (s.toList == [46, 46]) = false
  · have HA : Hid (s.data.toList.all inN = v) := (nameB_late h).symm.trans HV.out
    obtain ⟨h1, h2, h3, h4⟩ := h
    clear HV
    go_enter Tryz.func116, Tryz.ntmps116
    go_wp2
    go_loop [3] (fun i => ∃ k : Nat, k ≤ s.size ∧ i = .int .i64 k ∧ (s.data.toList.drop k).all inN = v) (fun i => s.size - (intOf i).toNat)
    case atStart => exact ⟨0, by omega, rfl, HA.out⟩
    case round =>
      obtain ⟨k, hk, rfl, hA⟩ := hrel
      have E : Hid ((s.data.toList.drop k).all inN = v) := hA
      clear hA HA
      by_cases hlt : k < s.size
      · have HS : Hid ((s.data.toList.drop k).all inN = (inN s[k] && (s.data.toList.drop (k + 1)).all inN)) := all_step hlt
        have hN := inN_iff s[k]
        have h256 : s[k].toNat < 256 := UInt8.toNat_lt _
        cases hb : inN s[k] with
        | false =>
          have HV : Hid (v = false) := by have h := E.out; rw [HS.out, hb] at h; exact h.symm
          have HN : Hid (¬ ((97 ≤ s[k].toNat ∧ s[k].toNat ≤ 122) ∨ (48 ≤ s[k].toNat ∧ s[k].toNat ≤ 57) ∨ s[k].toNat = 46 ∨ s[k].toNat = 95 ∨ s[k].toNat = 45)) := fun h => by rw [hN.2 h] at hb; cases hb
          clear E HS hN hb
          go_wp2
          all_goals (first | (exfalso; have h := HN.out; omega) | (exfalso; have h := HN.out; clear HN; simp only [bne_eq_false_iff_eq, bne_iff_ne, ne_eq] at *; omega) | (go_ret; exact ⟨by rw [HV.out]; rfl, rfl⟩))
        | true =>
          have HV : Hid ((s.data.toList.drop (k + 1)).all inN = v) := by have h := E.out; rw [HS.out, hb] at h; exact h
          have HN : Hid ((97 ≤ s[k].toNat ∧ s[k].toNat ≤ 122) ∨ (48 ≤ s[k].toNat ∧ s[k].toNat ≤ 57) ∨ s[k].toNat = 46 ∨ s[k].toNat = 95 ∨ s[k].toNat = 45) := hN.1 hb
          clear E HS hN hb
          go_wp2
          all_goals (first
            | (exfalso; have h := HN.out; omega) | (exfalso; have h := HN.out; clear HN; simp only [bne_eq_false_iff_eq, bne_iff_ne, ne_eq] at *; omega)
            | exact ⟨⟨k + 1, by omega, by go_num, HV.out⟩, by simp [intOf]; omega⟩)
      · have hkn : k = s.size := by omega
        have HV : Hid (true = v) := by have h := E.out; rw [hkn, ← list_sz, List.drop_length] at h; exact h
        clear E
        go_wp2
        go_ret
        exact ⟨by rw [← HV.out]; rfl, rfl⟩
  · have HF : Hid (false = v) := (nameB_early h).symm.trans HV.out
    have HH : Hid _ := h
    clear h HV
    go_enter Tryz.func116, Tryz.ntmps116
    go_wp2
    all_goals (first
      | (go_ret; exact ⟨by rw [← HF.out]; rfl, rfl⟩)
      | (refine absurd ?_ HH.out; refine ⟨by omega, by omega, ?_, ?_⟩ <;> simp_all))

end Go.Proofs.YtigomhilcnnjdaaGreat

/- The contract of tabulariumref06.Split. -/
namespace Go.Proofs.YtigomhilcnnjdaaGreat
open Go.RowKit

set_option maxRecDepth 100000 in
set_option maxHeartbeats 2000000 in
theorem refSplit_any (p : ByteArray) (X : List ByteArray × Int) (w : World) (hs : p.size ≤ maxLen) (hX : splitX p = X) :
    Calls Tryz.prog 98 #[.string p] w fun e w' => SplitR w.heap.size X e w' ∧ Below w.heap.size w w' := by
  obtain ⟨i0, hi, hz0, hz1, hz2⟩ := info_parts Tryz.infoStr
  have hs2 : p.size ≤ 9223372036854775807 := by unfold maxLen at hs; omega
  have HX0 : Hid (splitX p = X) := hX
  clear hX hs
  by_cases h1 : 120 < p.size
  · have HV : Hid (X = ([], 4)) := HX0.out.symm.trans (splitX_long h1)
    go_enter Tryz.func98, Tryz.ntmps98
    go_wp2
    go_ret2
    exact ⟨SplitR.bad HV.out rfl, Below.refl _ _⟩
  · cases h2 : p.toList == [47] with
    | true =>
      have HV : Hid (X = ([], 0)) := HX0.out.symm.trans (splitX_root h2)
      go_enter Tryz.func98, Tryz.ntmps98
      go_wp2
      go_ret2
      exact ⟨SplitR.bad HV.out rfl, Below.refl _ _⟩
    | false =>
      have HX : Hid (X = splitC (cutL p.data.toList)) := HX0.out.symm.trans (splitX_cut (by omega) h2)
      have hp : p.size ≤ 120 := by omega
      clear HX0 h1
      go_enter Tryz.func98, Tryz.ntmps98
      go_wp2
      go_loopg [4, 5] p.size (fun g v c wr => ∃ (i : Nat) (acc : List ByteArray), c = .int .i64 i ∧ i + g = p.size ∧ i ≤ p.size ∧ acc.length ≤ i ∧ Sofar p acc (p.data.toList.drop i) ∧
          wr.ownsRow w.heap.size 9 1 v acc.length (acc.map Value.string) ∧ Below w.heap.size w wr)
      case atStart => exact ⟨0, [], rfl, by omega, by omega, by simp, sofar_start p, World.ownsRow_nil _ _ _ _, Below.refl _ _⟩
      case round =>
        obtain ⟨i, acc, rfl, hg, hip, hle, hE, hown, hbel⟩ := hrel
        have HG : Hid (i + gk = p.size) := hg
        have E : Hid (Sofar p acc (p.data.toList.drop i)) := hE
        have hsz := hbel.size
        clear hg hE
        by_cases hlt : i < p.size
        · go_wp2
          rename World => wo
          go_loopg [6] (p.size - (i + 1)) (fun g c wi => ∃ n : Nat, c = .int .i64 n ∧ i + 1 ≤ n ∧ n + g = p.size ∧ (∀ j (hj : j < p.size), i + 1 ≤ j → j < n → p[j] ≠ 47) ∧ wi = wo)
          case atStart => exact ⟨i + 1, by go_num, by omega, by omega, fun j hj h1 h2 => by omega, rfl⟩
          case round =>
            obtain ⟨n, rfl, hn1, hng, hno, hwi⟩ := hrel
            have hwi' : wo = wr := hwi.symm
            subst hwi'
            clear hwi
            have HJ : Hid (∀ j (hj : j < p.size), i + 1 ≤ j → j < n → p[j] ≠ 47) := hno
            by_cases hne : n < p.size
            · by_cases h47 : p[n].toNat = 47
              · have hB2 : ((p[n].toNat : Int) != 47) = false := by rw [bne_eq_false_iff_eq]; omega
                have HC : Hid (cutL (p.data.toList.drop i) = if p[i] = 47 ∧ nameB (p.extract (i + 1) n) = true then (cutL (p.data.toList.drop n)).map (p.extract (i + 1) n :: ·) else none) := cut_at p i n (by omega) (by omega) (by omega) HJ.out (fun h => by first | (exfalso; omega) | exact UInt8.toNat_inj.1 h47)
                have hxs : (p.extract (i + 1) n).size ≤ maxLen := by rw [ByteArray.size_extract]; unfold maxLen; omega
                by_cases hi47 : p[i].toNat = 47
                · have hB3 : ((p[i].toNat : Int) != 47) = false := by rw [bne_eq_false_iff_eq]; omega
                  have HC2 : Hid (p[i] = 47) := UInt8.toNat_inj.1 hi47
                  cases hb : nameB (p.extract (i + 1) n) with
                  | false =>
                    have HV : Hid (X = ([], 1)) := by
                      have h := HC.out
                      rw [if_neg (by rw [hb]; simp)] at h
                      have h2 := HX.out
                      rw [sofar_no E.out h] at h2
                      exact h2
                    have HB : Hid (nameB (p.extract (i + 1) n) = false) := hb
                    clear HC HC2 HJ hb E HX hown hno hi47
                    go_wp2_with (go_at_call 116; refine (refName_val (p.extract (i + 1) n) false _ hxs HB.out).mono ?_; intro e w1 h; have h2 : wo = w1 := h.2.symm; have h1 := h.1; clear h; subst h2; subst h1)
                    go_ret2
                    exact ⟨SplitR.bad HV.out rfl, hbel⟩
                  | true =>
                    have HV : Hid (Sofar p (acc ++ [p.extract (i + 1) n]) (p.data.toList.drop n)) := by
                      have h := HC.out
                      rw [if_pos ⟨HC2.out, hb⟩] at h
                      exact sofar_step E.out h
                    have HB : Hid (nameB (p.extract (i + 1) n) = true) := hb
                    have hown3 := hown
                    clear HC HC2 HJ hb E hown hno hi47
                    generalize hT : p.extract (i + 1) n = T at *
                    go_wp2_with (first
                      | (go_at_call 116; refine (refName_val T true _ hxs HB.out).mono ?_; intro e w1 h; have h2 : wo = w1 := h.2.symm; have h1 := h.1; clear h; subst h2; subst h1)
                      | (at_builtin; refine wpList_append_own _ rfl _ _ 37 rfl w.heap.size 9 i0 (.string ⟨#[]⟩) 1 16 Tryz.underlying37 hi hz0 hz1 hz2 rfl (by decide) _ _ _ rfl (hown3.alloc _) ⟨wo.heap.size, 0, none⟩ 1 1 [.string T] rfl rfl ?c1 ?c2 ?c3 ?c4 ?c5 ?_))
                    case c1 =>
                      intro j u hj
                      match j, hj with
                      | 0, hj => simp at hj; subst hj; simp [Addr.add]
                    case c2 => intro u hu; simp at hu; subst hu; rfl
                    case c3 => unfold maxLen; omega
                    case c4 => omega
                    case c5 => simp; omega
                    · intro v' w4 hown4 hgrow _
                      have hbel4 : Below w.heap.size w w4 := by
                        refine (hbel.alloc hsz _).grown hgrow (by simp; omega) ?_
                        intro k hk
                        exact (hown3.lt k hk).1
                      have hown5 : w4.ownsRow w.heap.size 9 1 v' (acc ++ [T]).length ((acc ++ [T]).map Value.string) := by
                        simpa using hown4
                      clear hown4 hgrow hown3 hbel
                      go_wp2
                      go_roundg (p.size - n)
                      case measure => have := HG.out; omega
                      case rel => exact ⟨n, acc ++ [T], rfl, by omega, by omega, by rw [List.length_append]; simp; omega, HV.out, hown5, hbel4⟩
                · have hB3 : ((p[i].toNat : Int) != 47) = true := by rw [bne_iff_ne]; omega
                  have HV : Hid (X = ([], 1)) := by
                    have h := HC.out
                    rw [if_neg (fun g => hi47 (by rw [g.1]; rfl))] at h
                    have h2 := HX.out
                    rw [sofar_no E.out h] at h2
                    exact h2
                  clear HC HJ E HX hown hno
                  go_wp2_with (go_at_call 116; refine (refName_val (p.extract (i + 1) n) _ _ hxs rfl).mono ?_; intro e w1 h; have h2 : wo = w1 := h.2.symm; have h1 := h.1; clear h; subst h2; subst h1)
                  go_ret2
                  exact ⟨SplitR.bad HV.out rfl, hbel⟩
              · have HJ2 : Hid (∀ j (hj : j < p.size), i + 1 ≤ j → j < n + 1 → p[j] ≠ 47) := by
                  intro j hj h1 h2
                  by_cases e : j = n
                  · subst e; intro h; exact h47 (by rw [h]; rfl)
                  · exact HJ.out j hj h1 (by omega)
                have hB2 : ((p[n].toNat : Int) != 47) = true := by rw [bne_iff_ne]; omega
                clear hno HJ
                go_wp2
                go_roundg (p.size - (n + 1))
                case measure => omega
                case rel => exact ⟨n + 1, by go_num, by omega, by omega, HJ2.out, rfl⟩
            · have hB0 : ¬ ((n : Int) < (p.size : Int)) := by omega
              have HC : Hid (cutL (p.data.toList.drop i) = if p[i] = 47 ∧ nameB (p.extract (i + 1) n) = true then (cutL (p.data.toList.drop n)).map (p.extract (i + 1) n :: ·) else none) := cut_at p i n (by omega) (by omega) (by omega) HJ.out (fun h => by first | (exfalso; omega) | exact UInt8.toNat_inj.1 h47)
              have hxs : (p.extract (i + 1) n).size ≤ maxLen := by rw [ByteArray.size_extract]; unfold maxLen; omega
              by_cases hi47 : p[i].toNat = 47
              · have hB3 : ((p[i].toNat : Int) != 47) = false := by rw [bne_eq_false_iff_eq]; omega
                have HC2 : Hid (p[i] = 47) := UInt8.toNat_inj.1 hi47
                cases hb : nameB (p.extract (i + 1) n) with
                | false =>
                  have HV : Hid (X = ([], 1)) := by
                    have h := HC.out
                    rw [if_neg (by rw [hb]; simp)] at h
                    have h2 := HX.out
                    rw [sofar_no E.out h] at h2
                    exact h2
                  have HB : Hid (nameB (p.extract (i + 1) n) = false) := hb
                  clear HC HC2 HJ hb E HX hown hno hi47
                  go_wp2_with (go_at_call 116; refine (refName_val (p.extract (i + 1) n) false _ hxs HB.out).mono ?_; intro e w1 h; have h2 : wo = w1 := h.2.symm; have h1 := h.1; clear h; subst h2; subst h1)
                  go_ret2
                  exact ⟨SplitR.bad HV.out rfl, hbel⟩
                | true =>
                  have HV : Hid (Sofar p (acc ++ [p.extract (i + 1) n]) (p.data.toList.drop n)) := by
                    have h := HC.out
                    rw [if_pos ⟨HC2.out, hb⟩] at h
                    exact sofar_step E.out h
                  have HB : Hid (nameB (p.extract (i + 1) n) = true) := hb
                  have hown3 := hown
                  clear HC HC2 HJ hb E hown hno hi47
                  generalize hT : p.extract (i + 1) n = T at *
                  go_wp2_with (first
                    | (go_at_call 116; refine (refName_val T true _ hxs HB.out).mono ?_; intro e w1 h; have h2 : wo = w1 := h.2.symm; have h1 := h.1; clear h; subst h2; subst h1)
                    | (at_builtin; refine wpList_append_own _ rfl _ _ 37 rfl w.heap.size 9 i0 (.string ⟨#[]⟩) 1 16 Tryz.underlying37 hi hz0 hz1 hz2 rfl (by decide) _ _ _ rfl (hown3.alloc _) ⟨wo.heap.size, 0, none⟩ 1 1 [.string T] rfl rfl ?c1 ?c2 ?c3 ?c4 ?c5 ?_))
                  case c1 =>
                    intro j u hj
                    match j, hj with
                    | 0, hj => simp at hj; subst hj; simp [Addr.add]
                  case c2 => intro u hu; simp at hu; subst hu; rfl
                  case c3 => unfold maxLen; omega
                  case c4 => omega
                  case c5 => simp; omega
                  · intro v' w4 hown4 hgrow _
                    have hbel4 : Below w.heap.size w w4 := by
                      refine (hbel.alloc hsz _).grown hgrow (by simp; omega) ?_
                      intro k hk
                      exact (hown3.lt k hk).1
                    have hown5 : w4.ownsRow w.heap.size 9 1 v' (acc ++ [T]).length ((acc ++ [T]).map Value.string) := by
                      simpa using hown4
                    clear hown4 hgrow hown3 hbel
                    go_wp2
                    go_roundg (p.size - n)
                    case measure => have := HG.out; omega
                    case rel => exact ⟨n, acc ++ [T], rfl, by omega, by omega, by rw [List.length_append]; simp; omega, HV.out, hown5, hbel4⟩
              · have hB3 : ((p[i].toNat : Int) != 47) = true := by rw [bne_iff_ne]; omega
                have HV : Hid (X = ([], 1)) := by
                  have h := HC.out
                  rw [if_neg (fun g => hi47 (by rw [g.1]; rfl))] at h
                  have h2 := HX.out
                  rw [sofar_no E.out h] at h2
                  exact h2
                clear HC HJ E HX hown hno
                go_wp2_with (go_at_call 116; refine (refName_val (p.extract (i + 1) n) _ _ hxs rfl).mono ?_; intro e w1 h; have h2 : wo = w1 := h.2.symm; have h1 := h.1; clear h; subst h2; subst h1)
                go_ret2
                exact ⟨SplitR.bad HV.out rfl, hbel⟩
        · have HL : Hid (p.data.toList.drop i = []) := List.drop_of_length_le (by rw [list_sz]; omega)
          have HCC : Hid (cutL p.data.toList = some acc) := by have h := E.out; rw [HL.out] at h; exact sofar_end h
          have HSM : Hid (∀ x ∈ acc, x.size ≤ 20) := cut_small HCC.out
          have HC2 : Hid (X = if acc.length = 0 then ([], 1) else if 6 < acc.length then ([], 4) else (acc, 0)) := by have h := HX.out; rw [HCC.out] at h; exact h
          obtain ⟨a, cap, rfl⟩ := own_sl hown
          clear E HX HL HCC
          by_cases h0 : acc.length = 0
          · have HV : Hid (X = ([], 1)) := by have h := HC2.out; rw [if_pos h0] at h; exact h
            clear HC2 hown
            go_wp2
            go_ret2
            exact ⟨SplitR.bad HV.out rfl, hbel⟩
          · by_cases h6 : 6 < acc.length
            · have HV : Hid (X = ([], 4)) := by have h := HC2.out; rw [if_neg h0, if_pos h6] at h; exact h
              clear HC2 hown
              go_wp2
              go_ret2
              exact ⟨SplitR.bad HV.out rfl, hbel⟩
            · have HV : Hid (X = (acc, 0)) := by have h := HC2.out; rw [if_neg h0, if_neg h6] at h; exact h
              clear HC2
              go_wp2
              go_ret2
              exact ⟨SplitR.good HV.out rfl hown (by omega) HSM.out, hbel⟩

end Go.Proofs.YtigomhilcnnjdaaGreat
