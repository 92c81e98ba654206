/- Part 8 of the proof: PathM. -/
import Derived.Lib.Strings
import Derived.ProofKit
import Derived.WalkKit

/- Names, the names of a path, and the path of names, in plain words. No program in it. -/
namespace Go.Proofs.YtigomhilcnnjdaaGreat

theorem ba_inj {a b : ByteArray} (h : a.data.toList = b.data.toList) : a = b := Go.WideShapes.bytes_inj h
theorem list_sz (s : ByteArray) : s.data.toList.length = s.size := Array.length_toList
theorem mk_sz (l : List UInt8) : (⟨l.toArray⟩ : ByteArray).size = l.length := by
  show l.toArray.size = l.length
  exact List.size_toArray
theorem mk_list (l : List UInt8) : (⟨l.toArray⟩ : ByteArray).data.toList = l := by simp
theorem mk_of (s : ByteArray) : (⟨s.data.toList.toArray⟩ : ByteArray) = s := ba_inj (mk_list _)
theorem ext_li (s : ByteArray) (a b : Nat) : (s.extract a b).data.toList = (s.data.toList.drop a).take (b - a) := Lib.extract_data _ _ _
theorem ext_to (s : ByteArray) (a : Nat) : (s.extract a s.size).data.toList = s.data.toList.drop a := by
  rw [ext_li, List.take_of_length_le]
  rw [List.length_drop, list_sz]; omega

/-- May the byte stand in a name? -/
def inN (b : UInt8) : Bool := (decide (97 ≤ b.toNat) && decide (b.toNat ≤ 122)) || (decide (48 ≤ b.toNat) && decide (b.toNat ≤ 57)) || b.toNat == 46 || b.toNat == 95 || b.toNat == 45

/-- Is it a name? -/
def nameL (l : List UInt8) : Bool := decide (1 ≤ l.length) && decide (l.length ≤ 20) && !(l == [46]) && !(l == [46, 46]) && l.all inN

def nameB (s : ByteArray) : Bool := nameL s.data.toList

theorem nameL_no47 {l : List UInt8} (h : nameL l = true) : ∀ x ∈ l, x ≠ 47 := by
  intro x hx e
  subst e
  unfold nameL at h
  simp only [Bool.and_eq_true] at h
  have := List.all_eq_true.1 h.2 _ hx
  revert this; decide
theorem nameL_len {l : List UInt8} (h : nameL l = true) : 1 ≤ l.length ∧ l.length ≤ 20 := by
  unfold nameL at h
  simp only [Bool.and_eq_true, decide_eq_true_eq] at h
  exact ⟨h.1.1.1.1, h.1.1.1.2⟩

def no47 (x : UInt8) : Bool := x != 47

/-- What stands ahead of the first slash, and what stands from it on. -/
def ahead (l : List UInt8) : List UInt8 := l.takeWhile no47
def rest (l : List UInt8) : List UInt8 := l.dropWhile no47

theorem rest_len (l : List UInt8) : (rest l).length ≤ l.length := by
  unfold rest
  induction l with
  | nil => simp
  | cons x l ih => rw [List.dropWhile_cons]; split <;> simp <;> omega

/-- The names of a text that is some times a slash and a name. -/
def cutL : List UInt8 → Option (List ByteArray)
  | [] => some []
  | c :: r => if c = 47 ∧ nameL (ahead r) = true then (cutL (rest r)).map (⟨(ahead r).toArray⟩ :: ·) else none
termination_by l => l.length
decreasing_by have := rest_len r; simp; omega

theorem cutL_nil : cutL [] = some [] := by rw [cutL]
theorem cutL_yes {c : UInt8} {r : List UInt8} (hc : c = 47) (hn : nameL (ahead r) = true) : cutL (c :: r) = (cutL (rest r)).map (⟨(ahead r).toArray⟩ :: ·) := by
  rw [cutL, if_pos ⟨hc, hn⟩]
theorem cutL_no {c : UInt8} {r : List UInt8} (h : ¬ (c = 47 ∧ nameL (ahead r) = true)) : cutL (c :: r) = none := by
  rw [cutL, if_neg h]

/-- Where the first slash is found. -/
theorem ahead_at (l : List UInt8) (n : Nat) (h : ∀ j (hj : j < l.length), j < n → l[j] ≠ 47) (hn : n ≤ l.length) (he : ∀ hl : n < l.length, l[n] = 47) : ahead l = l.take n ∧ rest l = l.drop n := by
  induction l generalizing n with
  | nil => simp [ahead, rest]
  | cons x l ih =>
    cases n with
    | zero =>
      have : x = 47 := he (by simp)
      subst this
      simp [ahead, rest, no47]
    | succ n =>
      have hx : x ≠ 47 := h 0 (by simp) (by omega)
      have := ih n (fun j hj hjn => h (j + 1) (by simp; omega) (by omega)) (by simpa using hn) (fun hl => he (by simp; omega))
      have hb : no47 x = true := by simp [no47, hx]
      unfold ahead rest at *
      rw [List.takeWhile_cons, if_pos hb, List.dropWhile_cons, if_pos hb, this.1, this.2]
      exact ⟨rfl, rfl⟩

/-- The text of names: a slash and a name, each. -/
def pathL (ns : List ByteArray) : List UInt8 := ns.flatMap (fun n => 47 :: n.data.toList)
theorem pathL_nil : pathL [] = [] := rfl
theorem pathL_cons (n : ByteArray) (ns : List ByteArray) : pathL (n :: ns) = 47 :: (n.data.toList ++ pathL ns) := by simp [pathL]
theorem pathL_app (a b : List ByteArray) : pathL (a ++ b) = pathL a ++ pathL b := by simp [pathL]

theorem ahead_rest (l : List UInt8) : ahead l ++ rest l = l := List.takeWhile_append_dropWhile

theorem cut_sound : ∀ (k : Nat) (l : List UInt8) (ns : List ByteArray), l.length ≤ k → cutL l = some ns → pathL ns = l ∧ ∀ n ∈ ns, nameB n = true := by
  intro k
  induction k with
  | zero =>
    intro l ns hl h
    obtain rfl : l = [] := List.length_eq_zero_iff.1 (by omega)
    rw [cutL_nil] at h; cases h
    exact ⟨rfl, by simp⟩
  | succ k ih =>
    intro l ns hl h
    cases l with
    | nil => rw [cutL_nil] at h; cases h; exact ⟨rfl, by simp⟩
    | cons c r =>
      by_cases hc : c = 47 ∧ nameL (ahead r) = true
      · rw [cutL_yes hc.1 hc.2] at h
        obtain ⟨ms, h1, h2⟩ := Option.map_eq_some_iff.1 h
        have hr := rest_len r
        obtain ⟨h3, h4⟩ := ih (rest r) ms (by simp at hl; omega) h1
        subst h2
        refine ⟨by rw [pathL_cons, h3, mk_list, ahead_rest, hc.1], ?_⟩
        intro n hn
        rcases List.mem_cons.1 hn with rfl | hn
        · unfold nameB; rw [mk_list]; exact hc.2
        · exact h4 n hn
      · rw [cutL_no hc] at h; cases h

theorem ahead_app (a b : List UInt8) (ha : ∀ x ∈ a, x ≠ 47) (hb : ∀ hl : 0 < b.length, b[0] = 47) : ahead (a ++ b) = a ∧ rest (a ++ b) = b := by
  have := ahead_at (a ++ b) a.length (fun j hj hja => by
    rw [List.getElem_append_left hja]; exact ha _ (List.getElem_mem _)) (by simp) (fun hl => by
    rw [List.getElem_append_right (Nat.le_refl _)]
    have := hb (by simp at hl; exact hl)
    simpa using this)
  rw [List.take_left, List.drop_left] at this
  exact this

theorem cut_back : ∀ (ns : List ByteArray), (∀ n ∈ ns, nameB n = true) → cutL (pathL ns) = some ns
  | [], _ => cutL_nil
  | n :: ns, h => by
    have h1 : nameL n.data.toList = true := h n (by simp)
    have ih := cut_back ns (fun m hm => h m (by simp [hm]))
    have hb : ∀ hl : 0 < (pathL ns).length, (pathL ns)[0] = 47 := by
      cases ns with
      | nil => intro hl; simp [pathL_nil] at hl
      | cons m ms => intro hl; simp only [pathL_cons, List.getElem_cons_zero]
    obtain ⟨e1, e2⟩ := ahead_app n.data.toList (pathL ns) (nameL_no47 h1) hb
    rw [pathL_cons, cutL_yes rfl (by rw [e1]; exact h1), e1, e2, ih, Option.map_some, mk_of]

/-- The path of names. -/
def pathT (ns : List ByteArray) : ByteArray := if ns = [] then ⟨#[47]⟩ else ⟨(pathL ns).toArray⟩

theorem pathT_nil : pathT [] = ⟨#[47]⟩ := rfl
theorem pathT_ne {ns : List ByteArray} (h : ns ≠ []) : pathT ns = ⟨(pathL ns).toArray⟩ := if_neg h

/-- These names make a path. -/
structure Good (ns : List ByteArray) : Prop where
  names : ∀ n ∈ ns, nameB n = true
  few : ns.length ≤ 6
  short : (pathL ns).length ≤ 120

theorem pathL_len_le {a b : List ByteArray} : (pathL a).length ≤ (pathL (a ++ b)).length := by rw [pathL_app, List.length_append]; omega

theorem Good.ahead {a b : List ByteArray} (h : Good (a ++ b)) : Good a :=
  ⟨fun n hn => h.names n (List.mem_append.2 (.inl hn)), by have := h.few; rw [List.length_append] at this; omega, Nat.le_trans pathL_len_le h.short⟩

theorem good_nil : Good [] := ⟨by simp, by simp, by simp [pathL]⟩

/-- Split's answer. -/
def splitX (p : ByteArray) : List ByteArray × Int :=
  if 120 < p.size then ([], 4) else if p.data.toList = [47] then ([], 0) else match cutL p.data.toList with
    | none => ([], 1)
    | some ns => if ns.length = 0 then ([], 1) else if 6 < ns.length then ([], 4) else (ns, 0)
def splitN (p : ByteArray) : List ByteArray := (splitX p).1
def splitE (p : ByteArray) : Int := (splitX p).2

theorem split_ok {p : ByteArray} (h : splitE p = 0) : Good (splitN p) ∧ p = pathT (splitN p) := by
  unfold splitE at h
  unfold splitN
  unfold splitX at *
  by_cases h1 : 120 < p.size
  · rw [if_pos h1] at h; simp at h
  · rw [if_neg h1] at h ⊢
    by_cases h2 : p.data.toList = [47]
    · rw [if_pos h2]
      refine ⟨good_nil, ba_inj ?_⟩
      rw [h2]; simp [pathT]
    · rw [if_neg h2] at h ⊢
      cases hc : cutL p.data.toList with
      | none => rw [hc] at h; simp at h
      | some ns =>
        rw [hc] at h
        simp only at h ⊢
        by_cases h3 : ns.length = 0
        · rw [if_pos h3] at h; simp at h
        · rw [if_neg h3] at h ⊢
          by_cases h4 : 6 < ns.length
          · rw [if_pos h4] at h; simp at h
          · rw [if_neg h4]
            obtain ⟨e1, e2⟩ := cut_sound _ _ _ (Nat.le_refl _) hc
            have hne : ns ≠ [] := fun e => h3 (by rw [e]; rfl)
            refine ⟨⟨e2, by show ns.length ≤ 6; omega, by show (pathL ns).length ≤ 120; rw [e1, list_sz]; omega⟩, ?_⟩
            show p = pathT ns
            rw [pathT_ne hne, e1, mk_of]

theorem split_bad {p : ByteArray} (h : splitE p ≠ 0) : splitN p = [] ∧ (splitE p = 1 ∨ splitE p = 4) := by
  unfold splitE at *
  unfold splitN
  unfold splitX at *
  by_cases h1 : 120 < p.size
  · rw [if_pos h1]; simp
  · rw [if_neg h1] at h ⊢
    by_cases h2 : p.data.toList = [47]
    · rw [if_pos h2] at h; simp at h
    · rw [if_neg h2] at h ⊢
      cases hc : cutL p.data.toList with
      | none => simp
      | some ns =>
        rw [hc] at h
        simp only at h ⊢
        by_cases h3 : ns.length = 0
        · rw [if_pos h3]; simp
        · rw [if_neg h3] at h ⊢
          by_cases h4 : 6 < ns.length
          · rw [if_pos h4]; simp
          · rw [if_neg h4] at h; simp at h

theorem pathL_two {n : ByteArray} {ns : List ByteArray} (h : nameB n = true) : pathL (n :: ns) ≠ [47] := by
  rw [pathL_cons]
  intro e
  have := nameL_len h
  simp at e
  have e1 : n.data.toList = [] := by rw [← Array.toList_eq_nil_iff] at e; exact e.1
  rw [e1] at this
  simp at this

theorem splitX_good {ns : List ByteArray} (h : Good ns) : splitX (pathT ns) = (ns, 0) := by
  unfold splitX
  cases ns with
  | nil => rw [pathT_nil, if_neg (by decide), if_pos (by decide)]
  | cons n ns =>
    have hs := h.short
    have hf := h.few
    rw [pathT_ne (by simp), mk_sz, if_neg (by omega), mk_list, if_neg (pathL_two (h.names n (by simp))), cut_back _ h.names]
    simp only
    rw [if_neg (by simp), if_neg (by omega)]

theorem splitN_good {ns : List ByteArray} (h : Good ns) : splitN (pathT ns) = ns := by unfold splitN; rw [splitX_good h]
theorem splitE_good {ns : List ByteArray} (h : Good ns) : splitE (pathT ns) = 0 := by unfold splitE; rw [splitX_good h]

/-- Join's answer. -/
def joinX (ns : List ByteArray) : ByteArray × Int :=
  if ns.all nameB = false then (⟨#[]⟩, 1) else if 6 < ns.length ∨ 120 < (pathL ns).length then (⟨#[]⟩, 4) else (pathT ns, 0)
def joinT (ns : List ByteArray) : ByteArray := (joinX ns).1
def joinE (ns : List ByteArray) : Int := (joinX ns).2

theorem joinX_bad {ns : List ByteArray} (h : ns.all nameB = false) : joinX ns = (⟨#[]⟩, 1) := if_pos h
theorem joinX_long {ns : List ByteArray} (h : ns.all nameB = true) (hl : 6 < ns.length ∨ 120 < (pathL ns).length) : joinX ns = (⟨#[]⟩, 4) := by
  unfold joinX; rw [if_neg (by rw [h]; simp), if_pos hl]
theorem joinX_good {ns : List ByteArray} (h : Good ns) : joinX ns = (pathT ns, 0) := by
  unfold joinX
  have h1 := h.few
  have h2 := h.short
  rw [if_neg (by rw [List.all_eq_true.2 h.names]; simp), if_neg (by omega)]

theorem joinX_cases (ns : List ByteArray) : (Good ns ∧ joinX ns = (pathT ns, 0)) ∨ (¬ Good ns ∧ joinX ns = (⟨#[]⟩, 1) ∧ ns.all nameB = false) ∨ (¬ Good ns ∧ joinX ns = (⟨#[]⟩, 4) ∧ ns.all nameB = true) := by
  cases h : ns.all nameB with
  | false =>
    refine .inr (.inl ⟨fun g => ?_, joinX_bad h, rfl⟩)
    rw [List.all_eq_true.2 g.names] at h; cases h
  | true =>
    by_cases hl : 6 < ns.length ∨ 120 < (pathL ns).length
    · refine .inr (.inr ⟨fun g => ?_, joinX_long h hl, rfl⟩)
      have h1 := g.few
      have h2 := g.short
      omega
    · have g : Good ns := ⟨List.all_eq_true.1 h, by omega, by omega⟩
      exact .inl ⟨g, joinX_good g⟩

theorem join_ok {ns : List ByteArray} (h : joinE ns = 0) : Good ns ∧ joinT ns = pathT ns := by
  unfold joinE at h
  unfold joinT
  rcases joinX_cases ns with ⟨g, e⟩ | ⟨_, e, _⟩ | ⟨_, e, _⟩
  · exact ⟨g, by rw [e]⟩
  · rw [e] at h; simp at h
  · rw [e] at h; simp at h

/-- Under's answer. -/
def underB (a b : ByteArray) : Bool := decide (splitE a = 0) && decide (splitE b = 0) && decide ((splitN b).take (splitN a).length = splitN a)

theorem underB_iff {a b : ByteArray} : underB a b = true ↔ splitE a = 0 ∧ splitE b = 0 ∧ splitN a <+: splitN b := by
  unfold underB
  simp only [Bool.and_eq_true, decide_eq_true_eq, List.prefix_iff_eq_take, and_assoc]
  constructor
  · rintro ⟨h1, h2, h3⟩; exact ⟨h1, h2, h3.symm⟩
  · rintro ⟨h1, h2, h3⟩; exact ⟨h1, h2, h3.symm⟩

/-- Move's answer. -/
def moveX (p f t : ByteArray) : ByteArray × Int :=
  if underB f p = true ∧ splitE t = 0 then joinX (splitN t ++ (splitN p).drop (splitN f).length) else (⟨#[]⟩, 1)

/-- Parent's answer. -/
def parentX (p : ByteArray) : ByteArray × ByteArray × Int :=
  if splitE p = 0 then match (splitN p).getLast? with
    | none => (⟨#[]⟩, ⟨#[]⟩, 1)
    | some n => (pathT (splitN p).dropLast, n, 0)
  else (⟨#[]⟩, ⟨#[]⟩, splitE p)

end Go.Proofs.YtigomhilcnnjdaaGreat
