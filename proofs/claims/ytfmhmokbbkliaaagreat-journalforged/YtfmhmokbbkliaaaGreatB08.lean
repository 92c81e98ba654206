/- Part 8 of the proof: DiskM, DiskA. -/
import Derived.Maps.Views
import Derived.Sort.KeysCollected

/- The files of a disk, as a list by their names; what a map reads as that holds them. No program in it. -/
namespace Go.Proofs.YtfmhmokbbkliaaaGreat
open Go.RowKit

/-- Name, bytes, how many are synced. -/
abbrev Fl := List UInt8 × List UInt8 × Nat
abbrev FS := List Fl

def Rise (S : FS) : Prop := S.Pairwise (fun p q => bytesBefore p.1 q.1 = true)
def fget (S : FS) (n : List UInt8) : Option (List UInt8 × Nat) := (S.find? (fun p => p.1 == n)).map (·.2)
def fdel (S : FS) (n : List UInt8) : FS := S.filter (fun p => !(p.1 == n))
def fins (x : Fl) : FS → FS
  | [] => [x]
  | y :: r => if bytesBefore x.1 y.1 then x :: y :: r else y :: fins x r
def fput (S : FS) (n : List UInt8) (f : List UInt8 × Nat) : FS := fins (n, f) (fdel S n)
def tot (S : FS) : Nat := (S.map (fun p => p.2.1.length)).sum
def flen (o : Option (List UInt8 × Nat)) : Nat := match o with | some f => f.1.length | none => 0

theorem tot_nil : tot [] = 0 := rfl
theorem tot_cons (p : Fl) (S : FS) : tot (p :: S) = p.2.1.length + tot S := by simp [tot]
theorem tot_append (A B : FS) : tot (A ++ B) = tot A + tot B := by simp [tot]

theorem ne_of_before {a b : List UInt8} (h : bytesBefore a b = true) : a ≠ b := by
  intro e; rw [e, WideAt.bytes_irrefl] at h; cases h

theorem fget_nil (n : List UInt8) : fget [] n = none := rfl
theorem fget_cons (p : Fl) (S : FS) (n : List UInt8) : fget (p :: S) n = if p.1 = n then some p.2 else fget S n := by
  unfold fget
  by_cases h : p.1 = n
  · simp [h]
  · have : (p.1 == n) = false := by simp [h]
    simp [this, h]

theorem fdel_cons (p : Fl) (S : FS) (n : List UInt8) : fdel (p :: S) n = if p.1 = n then fdel S n else p :: fdel S n := by
  unfold fdel
  by_cases h : p.1 = n <;> simp [h]

theorem fget_none_iff {S : FS} {n : List UInt8} : fget S n = none ↔ ∀ p ∈ S, p.1 ≠ n := by
  induction S with
  | nil => simp [fget]
  | cons p S ih =>
    rw [fget_cons]
    by_cases h : p.1 = n
    · simp [h]
    · simp [h, ih]

theorem fdel_of_none {S : FS} {n : List UInt8} (h : fget S n = none) : fdel S n = S := by
  rw [fget_none_iff] at h
  unfold fdel
  rw [List.filter_eq_self]
  intro p hp
  simp [h p hp]

theorem mem_fdel {S : FS} {n : List UInt8} {p : Fl} : p ∈ fdel S n ↔ p ∈ S ∧ p.1 ≠ n := by
  unfold fdel; simp

theorem mem_fins {x p : Fl} : ∀ {S : FS}, p ∈ fins x S ↔ p = x ∨ p ∈ S
  | [] => by simp [fins]
  | y :: r => by
    unfold fins
    split
    · simp
    · rw [List.mem_cons, mem_fins, List.mem_cons]
      constructor
      · rintro (h | h | h)
        · exact .inr (.inl h)
        · exact .inl h
        · exact .inr (.inr h)
      · rintro (h | h | h)
        · exact .inr (.inl h)
        · exact .inl h
        · exact .inr (.inr h)

theorem mem_fput {S : FS} {n : List UInt8} {f : List UInt8 × Nat} {p : Fl} : p ∈ fput S n f ↔ p = (n, f) ∨ (p ∈ S ∧ p.1 ≠ n) := by
  unfold fput; rw [mem_fins, mem_fdel]

theorem fget_mem {S : FS} {n : List UInt8} {f : List UInt8 × Nat} (h : fget S n = some f) : (n, f) ∈ S := by
  induction S with
  | nil => cases h
  | cons p S ih =>
    rw [fget_cons] at h
    by_cases e : p.1 = n
    · simp [e] at h
      have : p = (n, f) := Prod.ext e h
      simp [this]
    · simp [e] at h
      exact List.mem_cons_of_mem _ (ih h)

theorem Rise.tail {p : Fl} {S : FS} (h : Rise (p :: S)) : Rise S := (List.pairwise_cons.1 h).2
theorem Rise.head {p : Fl} {S : FS} (h : Rise (p :: S)) : ∀ q ∈ S, bytesBefore p.1 q.1 = true := (List.pairwise_cons.1 h).1

theorem mem_fget {S : FS} (hS : Rise S) {n : List UInt8} {f : List UInt8 × Nat} (h : (n, f) ∈ S) : fget S n = some f := by
  induction S with
  | nil => cases h
  | cons p S ih =>
    rw [fget_cons]
    rcases List.mem_cons.1 h with e | e
    · subst e; simp
    · have := hS.head _ e
      rw [if_neg (ne_of_before this)]
      exact ih hS.tail e

theorem rise_fdel {S : FS} (hS : Rise S) (n : List UInt8) : Rise (fdel S n) := List.Pairwise.filter _ hS

theorem rise_fins {x : Fl} : ∀ {S : FS}, Rise S → (∀ p ∈ S, p.1 ≠ x.1) → Rise (fins x S)
  | [], _, _ => by simp [fins, Rise]
  | y :: r, hS, hx => by
    unfold fins
    split
    · rename_i h
      refine List.pairwise_cons.2 ⟨fun q hq => ?_, hS⟩
      rcases List.mem_cons.1 hq with e | e
      · subst e; exact h
      · exact WideShapes.bytes_trans _ _ _ h (hS.head q e)
    · rename_i h
      refine List.pairwise_cons.2 ⟨fun q hq => ?_, rise_fins hS.tail (fun p hp => hx p (List.mem_cons_of_mem _ hp))⟩
      rcases mem_fins.1 hq with e | e
      · subst e
        rcases WideAt.bytes_total y.1 q.1 (hx y (by simp)) with h1 | h1
        · exact h1
        · exact absurd h1 h
      · exact hS.head q e

theorem rise_fput {S : FS} (hS : Rise S) (n : List UInt8) (f : List UInt8 × Nat) : Rise (fput S n f) :=
  rise_fins (rise_fdel hS n) (fun _ hp => (mem_fdel.1 hp).2)

theorem fget_fput_same {S : FS} (hS : Rise S) (n : List UInt8) (f : List UInt8 × Nat) : fget (fput S n f) n = some f :=
  mem_fget (rise_fput hS n f) (mem_fput.2 (.inl rfl))

theorem fget_ext {S T : FS} (hS : Rise S) (hT : Rise T) {n : List UInt8} (h : ∀ f, (n, f) ∈ S ↔ (n, f) ∈ T) : fget S n = fget T n := by
  cases e : fget S n with
  | some f => exact (mem_fget hT ((h f).1 (fget_mem e))).symm
  | none =>
    cases e2 : fget T n with
    | none => rfl
    | some f => rw [mem_fget hS ((h f).2 (fget_mem e2))] at e; cases e

theorem fget_fput_other {S : FS} (hS : Rise S) {n m : List UInt8} (f : List UInt8 × Nat) (h : m ≠ n) : fget (fput S n f) m = fget S m :=
  fget_ext (rise_fput hS n f) hS (fun g => by rw [mem_fput]; simp [h])

theorem fget_fdel_same (S : FS) (n : List UInt8) : fget (fdel S n) n = none := fget_none_iff.2 (fun _ hp => (mem_fdel.1 hp).2)

theorem fget_fdel_other {S : FS} (hS : Rise S) {n m : List UInt8} (h : m ≠ n) : fget (fdel S n) m = fget S m :=
  fget_ext (rise_fdel hS n) hS (fun g => by rw [mem_fdel]; simp [h])

theorem tot_fins (x : Fl) : ∀ S : FS, tot (fins x S) = x.2.1.length + tot S
  | [] => by simp [fins, tot]
  | y :: r => by
    unfold fins
    split
    · rw [tot_cons]
    · rw [tot_cons, tot_fins x r, tot_cons]; omega

theorem len_fins (x : Fl) : ∀ S : FS, (fins x S).length = S.length + 1
  | [] => rfl
  | y :: r => by
    unfold fins
    split
    · rfl
    · simp [len_fins x r]

theorem tot_fdel {S : FS} (hS : Rise S) (n : List UInt8) : tot (fdel S n) + flen (fget S n) = tot S := by
  induction S with
  | nil => rfl
  | cons p S ih =>
    rw [fdel_cons, fget_cons]
    by_cases h : p.1 = n
    · have h2 : fget S n = none := fget_none_iff.2 (fun q hq => by rw [← h]; exact (ne_of_before (hS.head q hq)).symm)
      rw [if_pos h, if_pos h, fdel_of_none h2, tot_cons]; simp [flen]; omega
    · have := ih hS.tail
      rw [if_neg h, if_neg h, tot_cons, tot_cons]; omega

theorem len_fdel {S : FS} (hS : Rise S) (n : List UInt8) : (fdel S n).length + (if (fget S n).isSome then 1 else 0) = S.length := by
  induction S with
  | nil => rfl
  | cons p S ih =>
    rw [fdel_cons, fget_cons]
    by_cases h : p.1 = n
    · have h2 : fget S n = none := fget_none_iff.2 (fun q hq => by rw [← h]; exact (ne_of_before (hS.head q hq)).symm)
      rw [if_pos h, if_pos h, fdel_of_none h2]; simp
    · have := ih hS.tail
      rw [if_neg h, if_neg h, List.length_cons, List.length_cons]; omega

theorem tot_fput {S : FS} (hS : Rise S) (n : List UInt8) (f : List UInt8 × Nat) : tot (fput S n f) + flen (fget S n) = tot S + f.1.length := by
  have h1 := tot_fdel hS n
  unfold fput; rw [tot_fins]; simp only; omega

theorem len_fput {S : FS} (hS : Rise S) (n : List UInt8) (f : List UInt8 × Nat) : (fput S n f).length + (if (fget S n).isSome then 1 else 0) = S.length + 1 := by
  have h1 := len_fdel hS n
  unfold fput; rw [len_fins]; omega

theorem tot_most : ∀ {S : FS}, (∀ p ∈ S, p.2.1.length ≤ 400000) → tot S ≤ 400000 * S.length
  | [], _ => by simp [tot]
  | p :: S, h => by
    have h1 := tot_most (S := S) (fun q hq => h q (List.mem_cons_of_mem _ hq))
    have h2 := h p (by simp)
    rw [tot_cons, List.length_cons]; omega

/-! ### in the middle -/
theorem rise_mid {A B : FS} {p : Fl} (h : Rise (A ++ p :: B)) : (∀ q ∈ A, bytesBefore q.1 p.1 = true) ∧ (∀ q ∈ B, bytesBefore p.1 q.1 = true) := by
  obtain ⟨_, h2, h3⟩ := List.pairwise_append.1 h
  exact ⟨fun q hq => h3 q hq p (by simp), (List.pairwise_cons.1 h2).1⟩

theorem fget_mid {A B : FS} {n : List UInt8} {f : List UInt8 × Nat} (h : Rise (A ++ (n, f) :: B)) : fget (A ++ (n, f) :: B) n = some f := mem_fget h (by simp)

theorem fdel_mid {A B : FS} {n : List UInt8} {f : List UInt8 × Nat} (h : Rise (A ++ (n, f) :: B)) : fdel (A ++ (n, f) :: B) n = A ++ B := by
  obtain ⟨h1, h2⟩ := rise_mid h
  have e1 : fdel A n = A := fdel_of_none (fget_none_iff.2 (fun q hq => ne_of_before (h1 q hq)))
  have e2 : fdel B n = B := fdel_of_none (fget_none_iff.2 (fun q hq => (ne_of_before (h2 q hq)).symm))
  unfold fdel at *
  rw [List.filter_append, e1]
  simp [e2]

theorem fins_mid {B : FS} {x : Fl} (h2 : ∀ q ∈ B, bytesBefore x.1 q.1 = true) : ∀ {A : FS}, (∀ q ∈ A, bytesBefore q.1 x.1 = true) → fins x (A ++ B) = A ++ x :: B
  | [], _ => by
    cases B with
    | nil => rfl
    | cons b B => simp [fins, h2 b (by simp)]
  | a :: A, h1 => by
    have ha := h1 a (by simp)
    have : bytesBefore x.1 a.1 = false := by
      cases e : bytesBefore x.1 a.1
      · rfl
      · have := WideShapes.bytes_trans _ _ _ ha e
        rw [WideAt.bytes_irrefl] at this; cases this
    show fins x (a :: (A ++ B)) = a :: (A ++ x :: B)
    rw [fins, this, if_neg (by simp), fins_mid h2 (fun q hq => h1 q (by simp [hq]))]

theorem fput_mid {A B : FS} {n : List UInt8} {f g : List UInt8 × Nat} (h : Rise (A ++ (n, f) :: B)) : fput (A ++ (n, f) :: B) n g = A ++ (n, g) :: B := by
  obtain ⟨h1, h2⟩ := rise_mid h
  unfold fput
  rw [fdel_mid h]
  exact fins_mid (x := (n, g)) h2 h1

/-! ### what the map reads as -/
def dm (V : List UInt8 → Value) (S : FS) : DataW Value := .map (S.map fun p => (.string p.1, .held (V p.1)))
def upd (V : List UInt8 → Value) (n : List UInt8) (v : Value) : List UInt8 → Value := fun m => if m = n then v else V m

theorem upd_same (V : List UInt8 → Value) (n : List UInt8) (v : Value) : upd V n v n = v := by simp [upd]
theorem upd_other (V : List UInt8 → Value) {n m : List UInt8} (v : Value) (h : m ≠ n) : upd V n v m = V m := by simp [upd, h]

theorem dm_empty (V : List UInt8 → Value) : dm V [] = .map [] := rfl

theorem dm_size (V : List UInt8 → Value) (S : FS) : Maps.size (dm V S) = S.length := by simp [dm, Maps.size]

theorem dm_keys (V : List UInt8 → Value) (S : FS) : strKeys (dm V S) = S.map (·.1) := by simp [dm, strKeys, strOf]

theorem dm_has (V : List UInt8 → Value) (S : FS) (n : List UInt8) : Maps.has (dm V S) (.string n) = (fget S n).isSome := by
  induction S with
  | nil => rfl
  | cons p S ih =>
    have e : Maps.has (dm V (p :: S)) (.string n) = ((p.1 == n) || Maps.has (dm V S) (.string n)) := rfl
    rw [e, ih, fget_cons]
    by_cases h : p.1 = n <;> simp [h]

theorem dm_at (V : List UInt8 → Value) (S : FS) (n : List UInt8) (z : DataW Value) : (dm V S).atKey (.string n) z = if (fget S n).isSome then .held (V n) else z := by
  induction S with
  | nil => rfl
  | cons p S ih =>
    rw [fget_cons]
    by_cases h : p.1 = n
    · subst h
      have e : (p.1 == p.1) = true := by simp
      simp [dm, DataW.atKey, Lit.sameKey]
    · have e : (p.1 == n) = false := by simp [h]
      have e2 : (dm V (p :: S)).atKey (.string n) z = (dm V S).atKey (.string n) z := by
        simp [dm, DataW.atKey, Lit.sameKey, e]
      rw [e2, ih, if_neg h]

theorem dm_del (V : List UInt8 → Value) (S : FS) (n : List UInt8) : (dm V S).del (.string n) = dm V (fdel S n) := by
  unfold dm fdel DataW.del
  simp only [DataW.map.injEq]
  rw [List.filter_map]
  rfl

theorem dm_ins (V : List UInt8 → Value) (n : List UInt8) (f : List UInt8 × Nat) : ∀ S : FS, DataW.insert (.string n, .held (V n)) (S.map fun p => (.string p.1, .held (V p.1))) = (fins (n, f) S).map (fun p => (.string p.1, .held (V p.1)))
  | [] => rfl
  | y :: r => by
    have := dm_ins V n f r
    simp only [List.map_cons, DataW.insert, fins]
    by_cases h : bytesBefore n y.1 = true
    · have h2 : (Lit.string n).before (.string y.1) = true := h
      simp [h, h2]
    · have h2 : ¬ (Lit.string n).before (.string y.1) = true := h
      rw [if_neg h, if_neg h2, this]; rfl

theorem dm_put (V : List UInt8 → Value) (S : FS) (n : List UInt8) (f : List UInt8 × Nat) (v : Value) : (dm V S).put (.string n) (.held v) = dm (upd V n v) (fput S n f) := by
  have e1 : dm V (fdel S n) = dm (upd V n v) (fdel S n) := by
    unfold dm
    congr 1
    apply List.map_congr_left
    intro p hp
    rw [upd_other V v (mem_fdel.1 hp).2]
  have e2 := dm_del V S n
  have e3 := dm_ins (upd V n v) n f (fdel S n)
  rw [upd_same] at e3
  unfold dm at e1 e2 ⊢
  unfold DataW.del at e2
  unfold DataW.put
  simp only [DataW.map.injEq] at e1 e2 ⊢
  rw [e2, e1, e3]
  rfl

/-! ### sums, whatever the order -/
def part (S : FS) (left : Lit → Bool) : Nat := tot (S.filter (fun p => !left (.string p.1)))

theorem part_start (V : List UInt8 → Value) (S : FS) : part S (Maps.has (dm V S)) = 0 := by
  unfold part
  have : S.filter (fun p => !Maps.has (dm V S) (.string p.1)) = [] := by
    rw [List.filter_eq_nil_iff]
    intro p hp
    rw [dm_has]
    cases e : fget S p.1 with
    | none => exact absurd rfl (fget_none_iff.1 e p hp)
    | some f => simp
  rw [this]; rfl

theorem part_end (S : FS) {left : Lit → Bool} (h : ∀ kl, left kl = false) : part S left = tot S := by
  unfold part
  rw [List.filter_eq_self.2 (fun p _ => by simp [h])]

theorem part_le : ∀ (S : FS) (left : Lit → Bool), part S left ≤ tot S
  | [], _ => by simp [part, tot]
  | p :: S, left => by
    have := part_le S left
    unfold part at *
    rw [tot_cons]
    simp only [List.filter_cons]
    split
    · rw [tot_cons]; omega
    · omega

theorem part_step {S : FS} (hS : Rise S) {left : Lit → Bool} {n : List UInt8} (hl : left (.string n) = true) {f : List UInt8 × Nat} (hf : fget S n = some f) :
    part S (fun z => left z && !z.sameKey (.string n)) = part S left + f.1.length := by
  induction S with
  | nil => cases hf
  | cons p S ih =>
    rw [fget_cons] at hf
    by_cases h : p.1 = n
    · subst h
      simp at hf
      have h2 : S.filter (fun q => !(left (.string q.1) && !(Lit.string q.1).sameKey (.string p.1))) = S.filter (fun q => !left (.string q.1)) := by
        apply List.filter_congr
        intro q hq
        have : (q.1 == p.1) = false := by
          have := (ne_of_before (hS.head q hq)).symm
          simp [this]
        simp [Lit.sameKey, this]
      unfold part
      simp only [List.filter_cons]
      rw [h2]
      simp [hl, Lit.sameKey, tot_cons, ← hf]
      omega
    · simp [h] at hf
      have hi := ih hS.tail hf
      have e : (p.1 == n) = false := by simp [h]
      unfold part at *
      simp only [List.filter_cons]
      have e2 : (!(left (.string p.1) && !(Lit.string p.1).sameKey (.string n))) = !left (.string p.1) := by simp [Lit.sameKey, e]
      rw [e2]
      by_cases h3 : (!left (.string p.1)) = true
      · rw [if_pos h3, if_pos h3, tot_cons, tot_cons, hi]; omega
      · rw [if_neg h3, if_neg h3, hi]

/-! ### names in their order -/
theorem le_of_before : ∀ {a b : List UInt8}, bytesBefore a b = true → a ≤ b
  | [], b, _ => by simp
  | x :: r, [], h => by simp [bytesBefore] at h
  | x :: r, y :: s, h => by
    simp only [bytesBefore, Bool.or_eq_true, Bool.and_eq_true, decide_eq_true_eq, beq_iff_eq] at h
    rcases h with h | ⟨rfl, h⟩
    · exact List.le_of_lt (List.Lex.rel h)
    · have := le_of_before h
      exact List.cons_le_cons_iff.2 (.inr ⟨rfl, this⟩)

theorem names_sorted {S : FS} (hS : Rise S) {ss : List (List UInt8)} (h : ss.Perm (S.map (·.1))) : ss.mergeSort (fun x y => decide (x ≤ y)) = S.map (·.1) := by
  have e := mergeSort_of_perm h
  rw [show ss.mergeSort (fun x y => decide (x ≤ y)) = ss.mergeSort leB from rfl, e]
  apply List.mergeSort_of_pairwise
  exact List.pairwise_map.2 (hS.imp (fun {p q} hpq => by simpa using le_of_before hpq))

end Go.Proofs.YtfmhmokbbkliaaaGreat

/- What each call does with a disk. No program in it. -/
namespace Go.Proofs.YtfmhmokbbkliaaaGreat
open Go.RowKit

/-- A disk: its room, how many changes are left, is the power gone, its files. -/
structure DS where
  room : Int
  fuse : Int
  down : Bool
  S : FS

def nameOk (n : List UInt8) : Bool := decide (1 ≤ n.length ∧ n.length ≤ 30)
def refM (S : FS) (n : List UInt8) : Int := if (fget S n).isSome then 0 else 5
def refR (S : FS) (a b : List UInt8) : Int := if nameOk b then refM S a else 1
def refA (ds : DS) (n d : List UInt8) : Int :=
  if nameOk n then (if 400000 < flen (fget ds.S n) + d.length then 4 else if (fget ds.S n).isNone ∧ 20 ≤ ds.S.length then 4 else if ds.room < (tot ds.S + d.length : Nat) then 8 else 0) else 1
def begE (ds : DS) (e : Int) : Int := if ds.down then 12 else if e = 0 ∧ ds.fuse ≠ 0 then (if ds.fuse = 1 then 12 else 0) else e
def begD (ds : DS) (e : Int) : DS := if ds.down then ds else if e = 0 ∧ ds.fuse ≠ 0 then (if ds.fuse = 1 then { ds with fuse := 0, down := true } else { ds with fuse := ds.fuse - 1 }) else ds

/-- A change that would tell e. -/
def doE (ds : DS) (e : Int) : Int := begE ds e
def doD (ds : DS) (e : Int) (f : FS → FS) : DS := if begE ds e = 0 then { begD ds e with S := f ds.S } else begD ds e

def fapp (n d : List UInt8) (S : FS) : FS := fput S n (match fget S n with | some f => (f.1 ++ d, f.2) | none => (d, 0))
def fsyn (n : List UInt8) (S : FS) : FS := match fget S n with | some f => fput S n (f.1, f.1.length) | none => S
def fren (a b : List UInt8) (S : FS) : FS := match fget S a with | some f => fput (fdel S a) b f | none => S

def keepN (c : Int) : Nat := if c < 0 then (-(c + 1)).toNat else c.toNat
def cutN (f : List UInt8 × Nat) (c : Int) : Nat := f.2 + keepN c % (f.1.length - f.2 + 1)
def crashL : List Int → FS → FS
  | _, [] => []
  | ks, p :: r => (if cutN p.2 (ks.headD 0) = 0 then [] else [(p.1, p.2.1.take (cutN p.2 (ks.headD 0)), cutN p.2 (ks.headD 0))]) ++ crashL ks.tail r

theorem begD_S (ds : DS) (e : Int) : (begD ds e).S = ds.S := by
  unfold begD; split; rfl; split; split <;> rfl; rfl
theorem begD_room (ds : DS) (e : Int) : (begD ds e).room = ds.room := by
  unfold begD; split; rfl; split; split <;> rfl; rfl

theorem begE_zero {ds : DS} {e : Int} (h : begE ds e = 0) : e = 0 := by
  unfold begE at h
  split at h
  · omega
  · split at h
    · rename_i h2; exact h2.1
    · exact h

theorem begD_form (ds : DS) (e : Int) : begD ds e = ⟨ds.room, (begD ds e).fuse, (begD ds e).down, ds.S⟩ := by
  rw [← begD_S ds e, ← begD_room ds e]

theorem refA_zero {ds : DS} {n d : List UInt8} (h : refA ds n d = 0) : nameOk n = true ∧ flen (fget ds.S n) + d.length ≤ 400000 ∧ ((fget ds.S n).isNone → ds.S.length < 20) ∧ ((tot ds.S + d.length : Nat) : Int) ≤ ds.room := by
  unfold refA at h
  split at h
  · rename_i h1
    split at h
    · cases h
    · split at h
      · cases h
      · rename_i h2 h3
        split at h
        · cases h
        · rename_i h4
          refine ⟨h1, by omega, fun h5 => ?_, by omega⟩
          simp [h5] at h3; omega
  · cases h

theorem nameOk_iff {n : List UInt8} (h : nameOk n = true) : 1 ≤ n.length ∧ n.length ≤ 30 := by
  unfold nameOk at h; simpa using h

theorem refM_zero {S : FS} {n : List UInt8} (h : refM S n = 0) : ∃ f, fget S n = some f := by
  unfold refM at h
  split at h
  · rename_i h1; exact Option.isSome_iff_exists.1 h1
  · cases h
theorem refR_zero {S : FS} {a b : List UInt8} (h : refR S a b = 0) : nameOk b = true ∧ ∃ f, fget S a = some f := by
  unfold refR at h
  split at h
  · rename_i h1; exact ⟨h1, refM_zero h⟩
  · cases h

/-- What a file has, as it is looked up. -/
def fdat (S : FS) (n : List UInt8) : List UInt8 := match fget S n with | some f => f.1 | none => []
def fsy (S : FS) (n : List UInt8) : Nat := match fget S n with | some f => f.2 | none => 0
theorem fapp_eq (n d : List UInt8) (S : FS) : fapp n d S = fput S n (fdat S n ++ d, fsy S n) := by
  unfold fapp fdat fsy; cases fget S n <;> rfl
theorem flen_eq (S : FS) (n : List UInt8) : flen (fget S n) = (fdat S n).length := by
  unfold flen fdat; cases fget S n <;> rfl

theorem cutN_le {f : List UInt8 × Nat} (h : f.2 ≤ f.1.length) (c : Int) : f.2 ≤ cutN f c ∧ cutN f c ≤ f.1.length := by
  unfold cutN
  have := Nat.mod_lt (keepN c) (show 0 < f.1.length - f.2 + 1 by omega)
  omega

theorem crashL_nil (ks : List Int) : crashL ks [] = [] := by cases ks <;> rfl

/-- The first k are done. -/
def crashTo (ks : List Int) (S : FS) (k : Nat) : FS := crashL ks (S.take k) ++ S.drop k

theorem crashL_snoc : ∀ (S : FS) (ks : List Int) (p : Fl), crashL ks (S ++ [p]) = crashL ks S ++ (if cutN p.2 (ks.getD S.length 0) = 0 then [] else [(p.1, p.2.1.take (cutN p.2 (ks.getD S.length 0)), cutN p.2 (ks.getD S.length 0))])
  | [], ks, p => by
    have : ks.headD 0 = ks.getD 0 0 := by cases ks <;> rfl
    show (if cutN p.2 (ks.headD 0) = 0 then [] else [(p.1, p.2.1.take (cutN p.2 (ks.headD 0)), cutN p.2 (ks.headD 0))]) ++ crashL ks.tail [] = crashL ks [] ++ _
    rw [crashL_nil, crashL_nil, this, List.append_nil, List.nil_append]
    rfl
  | q :: S, ks, p => by
    have e : ks.tail.getD S.length 0 = ks.getD (S.length + 1) 0 := by cases ks <;> simp
    show _ ++ crashL ks.tail (S ++ [p]) = (_ ++ crashL ks.tail S) ++ _
    rw [crashL_snoc S ks.tail p, e, List.append_assoc]
    rfl

theorem crashTo_zero (ks : List Int) (S : FS) : crashTo ks S 0 = S := by
  unfold crashTo; rw [List.take_zero, crashL_nil]; simp
theorem crashTo_end (ks : List Int) (S : FS) : crashTo ks S S.length = crashL ks S := by
  unfold crashTo; simp

theorem crashTo_split (ks : List Int) (S : FS) (k : Nat) (h : k < S.length) : crashTo ks S k = crashL ks (S.take k) ++ S[k] :: S.drop (k + 1) := by
  unfold crashTo; rw [List.drop_eq_getElem_cons h]
theorem crashTo_next (ks : List Int) (S : FS) (k : Nat) (h : k < S.length) :
    crashTo ks S (k + 1) = crashL ks (S.take k) ++ ((if cutN S[k].2 (ks.getD k 0) = 0 then [] else [(S[k].1, S[k].2.1.take (cutN S[k].2 (ks.getD k 0)), cutN S[k].2 (ks.getD k 0))]) ++ S.drop (k + 1)) := by
  unfold crashTo
  have hl : (S.take k).length = k := by rw [List.length_take]; omega
  rw [List.take_succ_eq_append_getElem h, crashL_snoc, hl, List.append_assoc]

/-- What stays of a file. -/
theorem mem_crashL : ∀ {S : FS} {ks : List Int} {p : Fl}, p ∈ crashL ks S → ∃ q ∈ S, p.1 = q.1 ∧ ∃ c, p.2 = (q.2.1.take (cutN q.2 c), cutN q.2 c) ∧ cutN q.2 c ≠ 0
  | [], ks, p, h => by rw [crashL_nil] at h; cases h
  | q :: S, ks, p, h => by
    rcases List.mem_append.1 (show p ∈ _ ++ crashL ks.tail S from h) with h1 | h1
    · split at h1
      · cases h1
      · rename_i hne
        rw [List.mem_singleton.1 h1]
        exact ⟨q, by simp, rfl, _, rfl, hne⟩
    · obtain ⟨q', h2, h3⟩ := mem_crashL h1
      exact ⟨q', by simp [h2], h3⟩

theorem names_crashL : ∀ (S : FS) (ks : List Int), ((crashL ks S).map (·.1)).Sublist (S.map (·.1))
  | [], ks => by rw [crashL_nil]; exact List.Sublist.refl _
  | q :: S, ks => by
    show ((_ ++ crashL ks.tail S).map _).Sublist _
    rw [List.map_append]
    have := names_crashL S ks.tail
    split
    · exact List.Sublist.cons _ this
    · exact List.Sublist.cons_cons _ this

theorem rise_iff (S : FS) : Rise S ↔ (S.map (·.1)).Pairwise (fun a b => bytesBefore a b = true) := by
  unfold Rise; rw [List.pairwise_map]

theorem rise_crashL {S : FS} (h : Rise S) (ks : List Int) : Rise (crashL ks S) := (rise_iff _).2 (((rise_iff _).1 h).sublist (names_crashL S ks))

theorem tot_crashL : ∀ {S : FS}, (∀ p ∈ S, p.2.2 ≤ p.2.1.length) → ∀ ks, tot (crashL ks S) ≤ tot S
  | [], _, ks => by rw [crashL_nil]; exact Nat.le_refl _
  | q :: S, h, ks => by
    show tot (_ ++ crashL ks.tail S) ≤ _
    have h1 := tot_crashL (S := S) (fun p hp => h p (List.mem_cons_of_mem _ hp)) ks.tail
    have h2 := (cutN_le (h q (by simp)) (ks.headD 0)).2
    rw [tot_append, tot_cons]
    split
    · rw [tot_nil]; omega
    · rw [tot_cons, tot_nil, List.length_take]; omega

/-- A crash leaves of a file what of the file alone. -/
theorem fget_crashL {S : FS} (hS : Rise S) (ks : List Int) (n : List UInt8) :
    ∃ c, fget (crashL ks S) n = match fget S n with | some f => (if cutN f c = 0 then none else some (f.1.take (cutN f c), cutN f c)) | none => none := by
  induction S generalizing ks with
  | nil => exact ⟨0, by rw [crashL_nil]; rfl⟩
  | cons q S ih =>
    rw [fget_cons]
    by_cases h : q.1 = n
    · refine ⟨ks.headD 0, ?_⟩
      rw [if_pos h]
      simp only
      have hno : fget (crashL ks.tail S) n = none := fget_none_iff.2 (fun p hp => by
        obtain ⟨q', h2, h3, _⟩ := mem_crashL hp
        rw [h3, ← h]
        exact (ne_of_before (hS.head q' h2)).symm)
      show fget ((if _ then _ else _) ++ crashL ks.tail S) n = _
      split
      · exact hno
      · show fget (_ :: crashL ks.tail S) n = _
        rw [fget_cons, if_pos h]
    · rw [if_neg h]
      obtain ⟨c, hc⟩ := ih hS.tail ks.tail
      refine ⟨c, ?_⟩
      rw [← hc]
      show fget ((if _ then _ else _) ++ crashL ks.tail S) n = _
      split
      · rfl
      · show fget (_ :: crashL ks.tail S) n = _
        rw [fget_cons, if_neg h]

end Go.Proofs.YtfmhmokbbkliaaaGreat
