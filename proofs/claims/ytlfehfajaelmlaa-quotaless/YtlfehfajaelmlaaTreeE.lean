/- What each call tells: its error, and what comes. No program in it. -/
import Derived.Test.YtlfehfajaelmlaaTreeM
namespace Go.Proofs.Ytlfehfajaelmlaa
open Go.RowKit

def nameN (p : ByteArray) : ByteArray := (parentX p).2.1
def inB (p : ByteArray) (x : Nd) : Bool := decide ((parentX x.path).2.2 = 0) && decide (parD x.path = p)
def namesL (xs : NS) (p : ByteArray) : List ByteArray := (xs.filter (inB p)).map (fun x => nameN x.path)

inductive ListE (xs : NS) (p : ByteArray) : Int → Prop
  | arg : (Right xs → pathB p = false) → ListE xs p 1
  | dir (e : Int) : Right xs → pathB p = true → dirE xs p = e → e ≠ 0 → ListE xs p e
  | ok : Right xs → pathB p = true → dirE xs p = 0 → ListE xs p 0

theorem listE_any (xs : NS) (p : ByteArray) : ∃ E, ListE xs p E := by
  by_cases h1 : Right xs
  · cases h2 : pathB p with
    | false => exact ⟨1, .arg fun _ => h2⟩
    | true =>
      by_cases h3 : dirE xs p = 0
      · exact ⟨0, .ok h1 h2 h3⟩
      · exact ⟨_, .dir _ h1 h2 rfl h3⟩
  · exact ⟨1, .arg fun h => absurd h h1⟩

def listL (xs : NS) (p : ByteArray) (E : Int) : List ByteArray := if E = 0 then namesL xs p else []

inductive AddE (xs : NS) (x : Nd) : Int → Prop
  | arg : ¬ (Right xs ∧ fitsB x = true ∧ x.path ≠ rootP) → AddE xs x 1
  | exist : Right xs → fitsB x = true → x.path ≠ rootP → at? xs x.path ≠ none → AddE xs x 6
  | par (e : Int) : Right xs → fitsB x = true → x.path ≠ rootP → at? xs x.path = none → dirE xs (parD x.path) = e → e ≠ 0 → AddE xs x e
  | long : Right xs → fitsB x = true → x.path ≠ rootP → at? xs x.path = none → dirE xs (parD x.path) = 0 → 60 ≤ xs.length → AddE xs x 4
  | ok : Right xs → fitsB x = true → x.path ≠ rootP → at? xs x.path = none → dirE xs (parD x.path) = 0 → xs.length < 60 → AddE xs x 0

theorem addE_any (xs : NS) (x : Nd) : ∃ E, AddE xs x E := by
  by_cases h1 : Right xs ∧ fitsB x = true ∧ x.path ≠ rootP
  · obtain ⟨h1, h2, h3⟩ := h1
    by_cases h4 : at? xs x.path = none
    · by_cases h5 : dirE xs (parD x.path) = 0
      · by_cases h6 : 60 ≤ xs.length
        · exact ⟨4, .long h1 h2 h3 h4 h5 h6⟩
        · exact ⟨0, .ok h1 h2 h3 h4 h5 (by omega)⟩
      · exact ⟨_, .par _ h1 h2 h3 h4 rfl h5⟩
    · exact ⟨6, .exist h1 h2 h3 h4⟩
  · exact ⟨1, .arg h1⟩

inductive RemE (xs : NS) (p : ByteArray) : Int → Prop
  | arg : ¬ (Right xs ∧ pathB p = true ∧ p ≠ rootP) → RemE xs p 1
  | none : Right xs → pathB p = true → p ≠ rootP → at? xs p = none → RemE xs p 5
  | ok : Right xs → pathB p = true → p ≠ rootP → at? xs p ≠ none → RemE xs p 0

theorem remE_any (xs : NS) (p : ByteArray) : ∃ E, RemE xs p E := by
  by_cases h1 : Right xs ∧ pathB p = true ∧ p ≠ rootP
  · by_cases h4 : at? xs p = none
    · exact ⟨5, .none h1.1 h1.2.1 h1.2.2 h4⟩
    · exact ⟨0, .ok h1.1 h1.2.1 h1.2.2 h4⟩
  · exact ⟨1, .arg h1⟩

def leftL (xs : NS) (p : ByteArray) : NS := xs.filter (fun x => !underB p x.path)
def remL (xs : NS) (p : ByteArray) (E : Int) : NS := if E = 0 then leftL xs p else []

/-- Whether the node at p is a directory. -/
def isDir (xs : NS) (p : ByteArray) : Bool := decide (dirE xs p = 0)
def movN (f t : ByteArray) (x : Nd) : Nd := ⟨(moveX x.path f t).1, x.dir, x.quota, x.bs, x.wr⟩
def goesB (f : ByteArray) (x : Nd) : Bool := underB f x.path
def stayB (f t : ByteArray) (x : Nd) : Bool := !decide (x.path = t) && !underB f x.path

inductive MovE (xs : NS) (f t : ByteArray) : Int → Prop
  | arg : ¬ (Right xs ∧ pathB f = true ∧ f ≠ rootP ∧ pathB t = true ∧ t ≠ rootP ∧ underB f t = false) → MovE xs f t 1
  | none : Right xs → pathB f = true → f ≠ rootP → pathB t = true → t ≠ rootP → underB f t = false → at? xs f = none → MovE xs f t 5
  | par (e : Int) : Right xs → pathB f = true → f ≠ rootP → pathB t = true → t ≠ rootP → underB f t = false → at? xs f ≠ none → dirE xs (parD t) = e → e ≠ 0 → MovE xs f t e
  | exist : Right xs → pathB f = true → f ≠ rootP → pathB t = true → t ≠ rootP → underB f t = false → at? xs f ≠ none → dirE xs (parD t) = 0 → at? xs t ≠ none → (isDir xs f || isDir xs t) = true → MovE xs f t 6
  | long : Right xs → pathB f = true → f ≠ rootP → pathB t = true → t ≠ rootP → underB f t = false → at? xs f ≠ none → dirE xs (parD t) = 0 → (at? xs t ≠ none → (isDir xs f || isDir xs t) = false) → (∃ x ∈ xs, underB f x.path = true ∧ (moveX x.path f t).2 ≠ 0) → MovE xs f t 4
  | ok : Right xs → pathB f = true → f ≠ rootP → pathB t = true → t ≠ rootP → underB f t = false → at? xs f ≠ none → dirE xs (parD t) = 0 → (at? xs t ≠ none → (isDir xs f || isDir xs t) = false) → (∀ x ∈ xs, underB f x.path = true → (moveX x.path f t).2 = 0) → MovE xs f t 0

theorem movE_any (xs : NS) (f t : ByteArray) : ∃ E, MovE xs f t E := by
  by_cases h : Right xs ∧ pathB f = true ∧ f ≠ rootP ∧ pathB t = true ∧ t ≠ rootP ∧ underB f t = false
  · obtain ⟨h1, h2, h3, h4, h5, h6⟩ := h
    by_cases h7 : at? xs f = none
    · exact ⟨5, .none h1 h2 h3 h4 h5 h6 h7⟩
    · by_cases h8 : dirE xs (parD t) = 0
      · by_cases h9 : at? xs t ≠ none ∧ (isDir xs f || isDir xs t) = true
        · exact ⟨6, .exist h1 h2 h3 h4 h5 h6 h7 h8 h9.1 h9.2⟩
        · have h10 : at? xs t ≠ none → (isDir xs f || isDir xs t) = false := fun e => by
            rw [Bool.eq_false_iff]; exact fun e2 => h9 ⟨e, e2⟩
          by_cases h11 : ∃ x ∈ xs, underB f x.path = true ∧ (moveX x.path f t).2 ≠ 0
          · exact ⟨4, .long h1 h2 h3 h4 h5 h6 h7 h8 h10 h11⟩
          · refine ⟨0, .ok h1 h2 h3 h4 h5 h6 h7 h8 h10 fun x hx hu => ?_⟩
            by_cases e : (moveX x.path f t).2 = 0
            · exact e
            · exact absurd ⟨x, hx, hu, e⟩ h11
      · exact ⟨_, .par _ h1 h2 h3 h4 h5 h6 h7 rfl h8⟩
  · exact ⟨1, .arg h⟩

theorem fits_few {x : Nd} (h : fitsB x = true) : x.bs.length ≤ 8 := by
  unfold fitsB at h
  simp only [Bool.and_eq_true] at h
  have h2 := h.2
  cases hd : x.dir with
  | true =>
    rw [hd] at h2
    simp only [if_true] at h2
    unfold dirB at h2
    simp only [Bool.and_eq_true, decide_eq_true_eq] at h2
    omega
  | false =>
    rw [hd] at h2
    simp only [Bool.false_eq_true, if_false] at h2
    unfold fileB headB at h2
    simp only [Bool.and_eq_true, decide_eq_true_eq] at h2
    exact h2.1.2
theorem Right.few8 {xs : NS} (h : Right xs) : ∀ x ∈ xs, x.bs.length ≤ 8 := fun x hx => fits_few (h.fit x hx)
theorem fits_path {x : Nd} (h : fitsB x = true) : splitE x.path = 0 := by
  unfold fitsB pathB at h
  simp only [Bool.and_eq_true, decide_eq_true_eq] at h
  exact h.1

end Go.Proofs.Ytlfehfajaelmlaa
