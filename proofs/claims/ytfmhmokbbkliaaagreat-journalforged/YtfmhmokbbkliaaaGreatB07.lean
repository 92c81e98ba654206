/- Part 7 of the proof: SumSeal, SumSealM, LogM. -/
import Derived.Test.YtfmhmokbbkliaaaGreatB02
import Derived.Test.YtfmhmokbbkliaaaGreatB06
import Derived.BigQuiet
import Derived.Deep.QuietTactic
import Derived.Lib.QuietBelow

/- The contracts of sum.Seal and sum.Open. -/
namespace Go.Proofs.YtfmhmokbbkliaaaGreat.Smm
open Go.RowKit Go.Proofs.YtfmhmokbbkliaaaGreat.Wir

theorem bytes_ne {a b : ByteArray} (h : ¬ a = b) : (a.toList == b.toList) = false := by
  rw [ByteArray.toList_eq, ByteArray.toList_eq, beq_eq_false_iff_ne]
  intro e
  apply h
  cases a; cases b
  simp at e
  rw [e]

/-- The bytes of a sealed text. -/
def sealB (s : ByteArray) : ByteArray := textB s ++ sum4 s

theorem textB_size (s : ByteArray) (h : s.size ≤ 4000) : (textB s).size ≤ 4010 ∧ s.size + 1 ≤ (textB s).size := by
  have h1 := numB_len (n := (s.size : Int)) (by omega) (by omega)
  have h2 : 0 < (numB s.size).length := by unfold numB; exact Lib.uvarint_pos _
  unfold textB
  rw [ByteArray.size_append, mk_size]
  omega

set_option maxRecDepth 100000 in
set_option maxHeartbeats 400000 in
theorem seal_yes (s : ByteArray) (w : World) (hs : s.size ≤ 4000) :
    Calls Tryz.prog 164 #[.string s] w fun e w' => e = .returned (.tuple #[.string (sealB s), .int .i64 0]) ∧ Below w.heap.size w w' := by
  have hl := textB_size s hs
  have h4 := sum4_size s
  have ha := fun (w : World) => run_string_add_sum (P := Tryz.prog) w (textB s) (sum4 s) (by omega)
  have hm : s.size ≤ maxLen := by unfold maxLen; omega
  unfold sealB
  clear hl h4
  go_enter Tryz.func164, Tryz.ntmps164
  go_wp2_with fail
  refine (text_yes s _ hs).mono ?_
  rintro e w1 ⟨rfl, b1⟩
  go_wp2_with fail
  refine (sumText_any s _ hm).mono ?_
  rintro e w2 ⟨rfl, b2⟩
  go_wp2
  go_ret2
  exact ⟨rfl, bel_trans b1 b2⟩

set_option maxHeartbeats 400000 in
theorem seal_no (s : ByteArray) (w : World) (hs : 4000 < s.size) :
    Calls Tryz.prog 164 #[.string s] w fun e w' => e = .returned (.tuple #[.string ⟨#[]⟩, .int .i64 4]) ∧ Below w.heap.size w w' := by
  go_enter Tryz.func164, Tryz.ntmps164
  go_wp2_with fail
  refine (text_no s _ hs).mono ?_
  rintro e w1 ⟨rfl, b1⟩
  go_wp2
  go_ret2
  exact ⟨rfl, b1⟩

/-- What is opened: the text, what stands behind, the error's number. -/
def openT (b : ByteArray) : ByteArray × ByteArray × Nat := match takeT b with
  | none => (⟨#[]⟩, ⟨#[]⟩, 2)
  | some (t, r) => if r.size < 4 then (⟨#[]⟩, ⟨#[]⟩, 2) else if r.extract 0 4 = sum4 t then (t, r.extract 4 r.size, 0) else (⟨#[]⟩, ⟨#[]⟩, 3)

theorem openT_cases (b : ByteArray) : (takeT b = none ∧ openT b = (⟨#[]⟩, ⟨#[]⟩, 2)) ∨ ∃ t r, takeT b = some (t, r) ∧
    ((r.size < 4 ∧ openT b = (⟨#[]⟩, ⟨#[]⟩, 2)) ∨ (4 ≤ r.size ∧ r.extract 0 4 = sum4 t ∧ openT b = (t, r.extract 4 r.size, 0)) ∨ (4 ≤ r.size ∧ ¬ r.extract 0 4 = sum4 t ∧ openT b = (⟨#[]⟩, ⟨#[]⟩, 3))) := by
  unfold openT
  cases hT : takeT b with
  | none => exact .inl ⟨rfl, rfl⟩
  | some p =>
    obtain ⟨t, r⟩ := p
    refine .inr ⟨t, r, rfl, ?_⟩
    simp only
    by_cases h4 : r.size < 4
    · exact .inl ⟨h4, by rw [if_pos h4]⟩
    · rw [if_neg h4]
      by_cases he : r.extract 0 4 = sum4 t
      · exact .inr (.inl ⟨by omega, he, by rw [if_pos he]⟩)
      · exact .inr (.inr ⟨by omega, he, by rw [if_neg he]⟩)

theorem takeT_size {b t r : ByteArray} (h : takeT b = some (t, r)) : t.size ≤ 4000 ∧ r.size ≤ b.size := by
  obtain ⟨n, q, h1, h2, h3, h4⟩ := takeT_yes h
  obtain ⟨_, _, _, _, _, h5, h6⟩ := takeC_yes h1
  subst h3 h4
  refine ⟨?_, Nat.le_trans (ext_size _ _ _) h6⟩
  rw [ByteArray.size_extract]; omega

set_option maxRecDepth 100000 in
set_option maxHeartbeats 1000000 in
theorem open_any (b : ByteArray) (T R : ByteArray) (E : Nat) (w : World) (hb : b.size ≤ maxLen) (hO : openT b = (T, R, E)) :
    Calls Tryz.prog 167 #[.string b] w fun e w' => e = .returned (.tuple #[.string T, .string R, .int .i64 E]) ∧ Below w.heap.size w w' := by
  rcases openT_cases b with ⟨hT, h⟩ | ⟨t, r, hT, h⟩
  · rw [hO] at h
    simp only [Prod.mk.injEq] at h
    obtain ⟨rfl, rfl, rfl⟩ := h
    have HT : Hid _ := hT
    clear hT hO
    go_enter Tryz.func167, Tryz.ntmps167
    go_wp2_with fail
    refine (takeText_no b _ hb HT.out).mono ?_
    rintro e w1 ⟨rfl, b1⟩
    go_wp2
    go_ret3
    exact ⟨rfl, b1⟩
  · have hsz := takeT_size hT
    have htm : t.size ≤ maxLen := by unfold maxLen; omega
    have hrm : r.size ≤ 9223372036854775807 := by unfold maxLen at hb; omega
    have HT : Hid _ := hT
    have HM : Hid _ := htm
    clear hT htm hsz
    rw [hO] at h
    simp only [Prod.mk.injEq] at h
    rcases h with ⟨h4, rfl, rfl, rfl⟩ | ⟨h4, he, rfl, rfl, rfl⟩ | ⟨h4, he, rfl, rfl, rfl⟩
    · clear hO
      go_enter Tryz.func167, Tryz.ntmps167
      go_wp2_with fail
      refine (takeText_yes b t r _ hb HT.out).mono ?_
      rintro e w1 ⟨rfl, b1⟩
      go_wp2
      go_ret3
      exact ⟨rfl, b1⟩
    · clear hO
      rename ByteArray => t
      go_enter Tryz.func167, Tryz.ntmps167
      go_wp2_with fail
      refine (takeText_yes b _ _ _ hb HT.out).mono ?_
      rintro e w1 ⟨rfl, b1⟩
      go_wp2
      refine wp_region_quiet_below (by kernel_rfl) (by kernel_rfl) ?_
      repeat (first | go_big_quiet_step (exact Calls.regrown_of (sumText_any _ _ HM.out)) | quiet_step (exact Calls.regrown_of (sumText_any _ _ HM.out)))
      refine wpQuiet_nil ?_
      intro _ hw'
      obtain ⟨⟨dq, osq⟩, hw''⟩ := hw'
      subst hw''
      go_wp2
      have b2 := bel_trans b1 (below_regrown w1 dq osq)
      generalize Sort.grow (redrawn w1 dq) osq = w2 at *
      refine wp_region_quiet_lit (by kernel_rfl) (by kernel_rfl) ?_
      repeat (first | go_big_quiet_step (fail) | quiet_step (fail))
      refine wpQuiet_nil ?_
      rintro _ ⟨nq, rfl⟩
      go_wp2
      go_ret3
      exact ⟨rfl, below_drewN b2 _⟩
    · clear hO
      have hne := bytes_ne he
      go_enter Tryz.func167, Tryz.ntmps167
      go_wp2_with fail
      refine (takeText_yes b t r _ hb HT.out).mono ?_
      rintro e w1 ⟨rfl, b1⟩
      go_wp2
      refine wp_region_quiet_below (by kernel_rfl) (by kernel_rfl) ?_
      repeat (first | go_big_quiet_step (exact Calls.regrown_of (sumText_any _ _ HM.out)) | quiet_step (exact Calls.regrown_of (sumText_any _ _ HM.out)))
      refine wpQuiet_nil ?_
      intro _ hw'
      obtain ⟨⟨dq, osq⟩, hw''⟩ := hw'
      subst hw''
      go_wp2
      go_ret3
      exact ⟨rfl, bel_trans b1 (below_regrown w1 dq osq)⟩

end Go.Proofs.YtfmhmokbbkliaaaGreat.Smm

/- Plain facts: what is sealed is opened as it was; what is cut off, or changed in one byte, is told. -/
namespace Go.Proofs.YtfmhmokbbkliaaaGreat.Smm
open Go.WideShapes (bytes_inj)
open Go.Proofs.YtfmhmokbbkliaaaGreat.Wir

theorem open_back (s rest : ByteArray) (hs : s.size ≤ 4000) : openT (sealB s ++ rest) = (s, rest, 0) := by
  have h4 := sum4_size s
  unfold openT sealB
  rw [app_assoc, takeT_back s _ hs]
  simp only
  rw [if_neg (by rw [app_size]; omega), ext_ahead _ _ _ h4.symm, if_pos rfl, ext_behind _ _ _ h4.symm]

theorem sealB_list (s : ByteArray) : (sealB s).data.toList = (textB s).data.toList ++ q4B (sumN s.data.toList) := by
  unfold sealB; rw [app_list]; rfl
theorem sealB_size (s : ByteArray) : (sealB s).size = (numB s.size).length + s.size + 4 := by
  have h4 := sum4_size s
  unfold sealB textB
  rw [app_size, app_size, mk_size]; omega

theorem open_cut (s : ByteArray) (k : Nat) (hk : k < (sealB s).size) : openT ((sealB s).extract 0 k) = (⟨#[]⟩, ⟨#[]⟩, 2) := by
  rcases openT_cases ((sealB s).extract 0 k) with ⟨_, h⟩ | ⟨t, r, hT, h⟩
  · exact h
  · obtain ⟨h1, _⟩ := takeT_sound hT
    rw [cut_list] at h1
    have hl : (sealB s).data.toList.length = (sealB s).size := size_list _
    have h2 : (textB t).data.toList ++ (r.data.toList ++ (sealB s).data.toList.drop k) = (textB s).data.toList ++ q4B (sumN s.data.toList) := by
      rw [← List.append_assoc, ← h1, List.take_append_drop, sealB_list]
    obtain ⟨_, h3⟩ := text_prefix h2
    have h5 := congrArg List.length h3
    rw [List.length_append, List.length_drop, size_list, hl] at h5
    have h6 : (q4B (sumN s.data.toList)).length = 4 := by simp [q4B]
    have h7 : r.size < 4 := by omega
    rcases h with ⟨_, h⟩ | ⟨h, _⟩ | ⟨h, _⟩
    · exact h
    · omega
    · omega

theorem q4At_nat (z i : Nat) : (q4At z i).toNat = z / 2 ^ (8 * (3 - i)) % 256 := by
  unfold q4At; simp [Nat.toUInt8, UInt8.toNat_ofNat']
theorem q4B_inj {a b : Nat} (ha : a < 4294967296) (hb : b < 4294967296) (h : q4B a = q4B b) : a = b := by
  have hi : ∀ i, i < 4 → q4At a i = q4At b i := fun i hi => by
    have := congrArg (fun l => l[i]?) h
    simpa [q4B, hi] using this
  have e : ∀ i, i < 4 → a / 2 ^ (8 * (3 - i)) % 256 = b / 2 ^ (8 * (3 - i)) % 256 := fun i h => by rw [← q4At_nat, ← q4At_nat, hi i h]
  have e0 : a / 16777216 % 256 = b / 16777216 % 256 := e 0 (by omega)
  have e1 : a / 65536 % 256 = b / 65536 % 256 := e 1 (by omega)
  have e2 : a / 256 % 256 = b / 256 % 256 := e 2 (by omega)
  have e3 : a / 1 % 256 = b / 1 % 256 := e 3 (by omega)
  omega

theorem sum4_ne {s t : ByteArray} (h : ¬ sumN s.data.toList = sumN t.data.toList) : ¬ sum4 s = sum4 t := by
  intro e
  apply h
  refine q4B_inj (sumN_lt _) (sumN_lt _) ?_
  have := congrArg (fun x => x.data.toList) e
  simpa [sum4] using this

/-- One byte that is another one makes another sum. -/
theorem sum_set (l : List UInt8) (q : Nat) (y : UInt8) (hq : q < l.length) (hy : l[q]? ≠ some y) : ¬ sumN (l.set q y) = sumN l := by
  intro e
  have h1 : l = l.take q ++ [l[q]] ++ l.drop (q + 1) := by
    rw [List.append_assoc, List.singleton_append, ← List.drop_eq_getElem_cons hq, List.take_append_drop]
  have h2 : l.set q y = l.take q ++ [y] ++ l.drop (q + 1) := by
    rw [List.set_eq_take_append_cons_drop, if_pos hq, List.append_assoc, List.singleton_append]
  have h3 := crc_burst (l.take q) [y] [l[q]] (l.drop (q + 1)) rfl (by simp) (by rw [← h1, ← h2]; exact BitVec.eq_of_toNat_eq e)
  simp at h3
  apply hy
  rw [List.getElem?_eq_getElem hq, h3]

/-- A sealed text one byte of which, behind its length, is another one: told. -/
theorem open_set (s : ByteArray) (hs : s.size ≤ 4000) (q : Nat) (y : UInt8) (hq4 : q < s.size + 4) (hy : (sealB s).data.toList[(numB s.size).length + q]? ≠ some y) :
    openT ⟨((sealB s).data.toList.set ((numB s.size).length + q) y).toArray⟩ = (⟨#[]⟩, ⟨#[]⟩, 3) := by
  have hL : (sealB s).data.toList = numB s.size ++ (s.data.toList ++ q4B (sumN s.data.toList)) := by
    rw [sealB_list, textB_data, List.append_assoc]
  have hsl : s.data.toList.length = s.size := size_list s
  have h4 : (q4B (sumN s.data.toList)).length = 4 := by simp [q4B]
  have hyy : (s.data.toList ++ q4B (sumN s.data.toList))[q]? ≠ some y := by
    rw [hL, List.getElem?_append_right (by omega), Nat.add_sub_cancel_left] at hy
    exact hy
  by_cases hq : q < s.size
  · have hz : (⟨(s.data.toList.set q y).toArray⟩ : ByteArray).size = s.size := by rw [mk_size, List.length_set, hsl]
    have e : (⟨((sealB s).data.toList.set ((numB s.size).length + q) y).toArray⟩ : ByteArray) = textB ⟨(s.data.toList.set q y).toArray⟩ ++ sum4 s := by
      refine bytes_inj ?_
      rw [app_list, textB_data, hz]
      show (sealB s).data.toList.set ((numB s.size).length + q) y = _
      rw [hL, List.set_append_right _ _ (by omega), Nat.add_sub_cancel_left, List.set_append_left _ _ (by omega)]
      simp [sum4]
    have hne : ¬ sum4 s = sum4 ⟨(s.data.toList.set q y).toArray⟩ := by
      refine sum4_ne fun e => ?_
      rw [List.getElem?_append_left (by omega)] at hyy
      exact sum_set s.data.toList q y (by omega) hyy e.symm
    have h44 := sum4_size s
    unfold openT
    rw [e, takeT_back _ _ (by omega)]
    simp only
    have hx : (sum4 s).extract 0 4 = sum4 s := by
      refine bytes_inj ?_
      rw [cut_list, List.take_of_length_le (by rw [size_list]; omega)]
    rw [if_neg (by omega), hx, if_neg hne]
  · have e : (⟨((sealB s).data.toList.set ((numB s.size).length + q) y).toArray⟩ : ByteArray) = textB s ++ ⟨((q4B (sumN s.data.toList)).set (q - s.size) y).toArray⟩ := by
      refine bytes_inj ?_
      rw [app_list, textB_data]
      show (sealB s).data.toList.set ((numB s.size).length + q) y = _
      rw [hL, List.set_append_right _ _ (by omega), Nat.add_sub_cancel_left, List.set_append_right _ _ (by omega), hsl]
      simp
    have hne : ¬ (⟨((q4B (sumN s.data.toList)).set (q - s.size) y).toArray⟩ : ByteArray) = sum4 s := by
      intro e
      have h5 : (q4B (sumN s.data.toList)).set (q - s.size) y = q4B (sumN s.data.toList) := by
        have := congrArg (fun x => x.data.toList) e
        simpa [sum4] using this
      have h6 : (q4B (sumN s.data.toList))[q - s.size]? = some y := by
        rw [← h5, List.getElem?_set_self (by omega)]
      rw [List.getElem?_append_right (by omega), hsl] at hyy
      exact hyy h6
    unfold openT
    rw [e, takeT_back _ _ hs]
    simp only
    have hz : (⟨((q4B (sumN s.data.toList)).set (q - s.size) y).toArray⟩ : ByteArray).size = 4 := by rw [mk_size, List.length_set, h4]
    have hx : (⟨((q4B (sumN s.data.toList)).set (q - s.size) y).toArray⟩ : ByteArray).extract 0 4 = ⟨((q4B (sumN s.data.toList)).set (q - s.size) y).toArray⟩ := by
      refine bytes_inj ?_
      rw [cut_list, List.take_of_length_le (by rw [size_list]; omega)]
    rw [if_neg (by omega), hx, if_neg hne]

end Go.Proofs.YtfmhmokbbkliaaaGreat.Smm

/- Plain: logs, their bytes, and what is read of bytes. -/
namespace Go.Proofs.YtfmhmokbbkliaaaGreat.Lgg
open Go.Proofs.YtfmhmokbbkliaaaGreat.Wir Go.Proofs.YtfmhmokbbkliaaaGreat.Smm
open Go.WideShapes (bytes_inj)
set_option linter.unusedVariables false

/-- An entry: its number, its text. -/
structure En where
  tx : Int
  d : ByteArray
deriving DecidableEq
structure Lg where
  ep : Int
  es : List En
def maxN : Int := 9007199254740991
def epOk (n : Int) : Bool := decide (0 ≤ n) && decide (n ≤ maxN)
def enOk (i : Nat) (x : En) : Prop := x.tx = ((i + 1 : Nat) : Int) ∧ x.d.size ≤ 600
def RtE (es : List En) : Prop := ∀ i (h : i < es.length), enOk i es[i]
def RtL (l : Lg) : Prop := epOk l.ep = true ∧ l.es.length ≤ 300 ∧ RtE l.es
def numT (n : Int) : ByteArray := ⟨(numB n).toArray⟩
def encE (x : En) : ByteArray := sealB (numT x.tx ++ x.d)
def encEs : List En → ByteArray
  | [] => ⟨#[]⟩
  | x :: r => encE x ++ encEs r
def encL (l : Lg) : ByteArray := sealB (numT l.ep) ++ encEs l.es

/-- The number that a sealed part begins with, what is behind it, what is behind the part. -/
def takeP (b : ByteArray) : Option (Int × ByteArray × ByteArray) := match openT b with
  | (T, R, 0) => match takeZ 0 0 T.data.toList with
    | some (z, k) => some (Lib.unzigzag z, T.extract k T.size, R)
    | none => none
  | (_, _, _ + 1) => none
def epochP (b : ByteArray) : Option (Int × ByteArray) := match takeP b with
  | some (n, d, r) => if epOk n = true ∧ d.size = 0 then some (n, r) else none
  | none => none
def entryP (b : ByteArray) (i : Int) : Option (ByteArray × ByteArray) := match takeP b with
  | some (n, d, r) => if n = i ∧ d.size ≤ 600 then some (d, r) else none
  | none => none
def goL : Nat → List En → ByteArray → List En × ByteArray
  | 0, es, b => (es, b)
  | f + 1, es, b => match entryP b ((es.length + 1 : Nat) : Int) with
    | some (d, r) => goL f (es ++ [⟨((es.length + 1 : Nat) : Int), d⟩]) r
    | none => (es, b)
def parseL (b : ByteArray) : Option (Lg × ByteArray) := match epochP b with
  | some (n, r) => some (⟨n, (goL 300 [] r).1⟩, (goL 300 [] r).2)
  | none => none

theorem app_empty (a : ByteArray) : a ++ (⟨#[]⟩ : ByteArray) = a := bytes_inj (by rw [app_list]; simp)
theorem empty_app (a : ByteArray) : (⟨#[]⟩ : ByteArray) ++ a = a := bytes_inj (by rw [app_list]; simp)
theorem encEs_app (xs ys : List En) : encEs (xs ++ ys) = encEs xs ++ encEs ys := by
  induction xs with
  | nil => exact (empty_app _).symm
  | cons x xs ih => show encE x ++ encEs (xs ++ ys) = (encE x ++ encEs xs) ++ encEs ys; rw [ih, app_assoc]
theorem encEs_one (x : En) : encEs [x] = encE x := app_empty _
theorem numT_size {n : Int} (h0 : -9223372036854775808 ≤ n) (h1 : n ≤ 9223372036854775807) : (numT n).size ≤ 10 := by
  unfold numT; rw [mk_size]; exact numB_len h0 h1
end Go.Proofs.YtfmhmokbbkliaaaGreat.Lgg
