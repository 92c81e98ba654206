/- What each call does with a disk. No program in it. -/
import Derived.Test.YtokldcifhjkmnaaDiskM
namespace Go.Proofs.Ytokldcifhjkmnaa
open Go.RowKit

/-- A disk: its room, how many changes are left, is the power gone, its files. -/
structure DS where
  room : Int
  fuse : Int
  down : Bool
  S : FS

def nameOk (n : List UInt8) : Bool := decide (1 ≤ n.length ∧ n.length ≤ 30)
def refM (S : FS) (n : List UInt8) : Int := if (fget S n).isSome then 0 else 5
def refR (S : FS) (a b : List UInt8) : Int := if nameOk b then refM S a else 1
def refA (ds : DS) (n d : List UInt8) : Int :=
  if nameOk n then (if 400000 < flen (fget ds.S n) + d.length then 4 else if (fget ds.S n).isNone ∧ 20 ≤ ds.S.length then 4 else if ds.room < (tot ds.S + d.length : Nat) then 8 else 0) else 1
def begE (ds : DS) (e : Int) : Int := if ds.down then 12 else if e = 0 ∧ ds.fuse ≠ 0 then (if ds.fuse = 1 then 12 else 0) else e
def begD (ds : DS) (e : Int) : DS := if ds.down then ds else if e = 0 ∧ ds.fuse ≠ 0 then (if ds.fuse = 1 then { ds with fuse := 0, down := true } else { ds with fuse := ds.fuse - 1 }) else ds

/-- A change that would tell e. -/
def doE (ds : DS) (e : Int) : Int := begE ds e
def doD (ds : DS) (e : Int) (f : FS → FS) : DS := if begE ds e = 0 then { begD ds e with S := f ds.S } else begD ds e

def fapp (n d : List UInt8) (S : FS) : FS := fput S n (match fget S n with | some f => (f.1 ++ d, f.2) | none => (d, 0))
def fsyn (n : List UInt8) (S : FS) : FS := match fget S n with | some f => fput S n (f.1, f.1.length) | none => S
def fren (a b : List UInt8) (S : FS) : FS := match fget S a with | some f => fput (fdel S a) b f | none => S

def keepN (c : Int) : Nat := if c < 0 then (-(c + 1)).toNat else c.toNat
def cutN (f : List UInt8 × Nat) (c : Int) : Nat := f.2 + keepN c % (f.1.length - f.2 + 1)
def crashL : List Int → FS → FS
  | _, [] => []
  | ks, p :: r => (if cutN p.2 (ks.headD 0) = 0 then [] else [(p.1, p.2.1.take (cutN p.2 (ks.headD 0)), cutN p.2 (ks.headD 0))]) ++ crashL ks.tail r

theorem begD_S (ds : DS) (e : Int) : (begD ds e).S = ds.S := by
  unfold begD; split; rfl; split; split <;> rfl; rfl
theorem begD_room (ds : DS) (e : Int) : (begD ds e).room = ds.room := by
  unfold begD; split; rfl; split; split <;> rfl; rfl

theorem begE_zero {ds : DS} {e : Int} (h : begE ds e = 0) : e = 0 := by
  unfold begE at h
  split at h
  · omega
  · split at h
    · rename_i h2; exact h2.1
    · exact h

theorem begD_form (ds : DS) (e : Int) : begD ds e = ⟨ds.room, (begD ds e).fuse, (begD ds e).down, ds.S⟩ := by
  rw [← begD_S ds e, ← begD_room ds e]

theorem refA_zero {ds : DS} {n d : List UInt8} (h : refA ds n d = 0) : nameOk n = true ∧ flen (fget ds.S n) + d.length ≤ 400000 ∧ ((fget ds.S n).isNone → ds.S.length < 20) ∧ ((tot ds.S + d.length : Nat) : Int) ≤ ds.room := by
  unfold refA at h
  split at h
  · rename_i h1
    split at h
    · cases h
    · split at h
      · cases h
      · rename_i h2 h3
        split at h
        · cases h
        · rename_i h4
          refine ⟨h1, by omega, fun h5 => ?_, by omega⟩
          simp [h5] at h3; omega
  · cases h

theorem nameOk_iff {n : List UInt8} (h : nameOk n = true) : 1 ≤ n.length ∧ n.length ≤ 30 := by
  unfold nameOk at h; simpa using h

theorem refM_zero {S : FS} {n : List UInt8} (h : refM S n = 0) : ∃ f, fget S n = some f := by
  unfold refM at h
  split at h
  · rename_i h1; exact Option.isSome_iff_exists.1 h1
  · cases h
theorem refR_zero {S : FS} {a b : List UInt8} (h : refR S a b = 0) : nameOk b = true ∧ ∃ f, fget S a = some f := by
  unfold refR at h
  split at h
  · rename_i h1; exact ⟨h1, refM_zero h⟩
  · cases h

/-- What a file has, as it is looked up. -/
def fdat (S : FS) (n : List UInt8) : List UInt8 := match fget S n with | some f => f.1 | none => []
def fsy (S : FS) (n : List UInt8) : Nat := match fget S n with | some f => f.2 | none => 0
theorem fapp_eq (n d : List UInt8) (S : FS) : fapp n d S = fput S n (fdat S n ++ d, fsy S n) := by
  unfold fapp fdat fsy; cases fget S n <;> rfl
theorem flen_eq (S : FS) (n : List UInt8) : flen (fget S n) = (fdat S n).length := by
  unfold flen fdat; cases fget S n <;> rfl

theorem cutN_le {f : List UInt8 × Nat} (h : f.2 ≤ f.1.length) (c : Int) : f.2 ≤ cutN f c ∧ cutN f c ≤ f.1.length := by
  unfold cutN
  have := Nat.mod_lt (keepN c) (show 0 < f.1.length - f.2 + 1 by omega)
  omega

theorem crashL_nil (ks : List Int) : crashL ks [] = [] := by cases ks <;> rfl

/-- The first k are done. -/
def crashTo (ks : List Int) (S : FS) (k : Nat) : FS := crashL ks (S.take k) ++ S.drop k

theorem crashL_snoc : ∀ (S : FS) (ks : List Int) (p : Fl), crashL ks (S ++ [p]) = crashL ks S ++ (if cutN p.2 (ks.getD S.length 0) = 0 then [] else [(p.1, p.2.1.take (cutN p.2 (ks.getD S.length 0)), cutN p.2 (ks.getD S.length 0))])
  | [], ks, p => by
    have : ks.headD 0 = ks.getD 0 0 := by cases ks <;> rfl
    show (if cutN p.2 (ks.headD 0) = 0 then [] else [(p.1, p.2.1.take (cutN p.2 (ks.headD 0)), cutN p.2 (ks.headD 0))]) ++ crashL ks.tail [] = crashL ks [] ++ _
    rw [crashL_nil, crashL_nil, this, List.append_nil, List.nil_append]
    rfl
  | q :: S, ks, p => by
    have e : ks.tail.getD S.length 0 = ks.getD (S.length + 1) 0 := by cases ks <;> simp
    show _ ++ crashL ks.tail (S ++ [p]) = (_ ++ crashL ks.tail S) ++ _
    rw [crashL_snoc S ks.tail p, e, List.append_assoc]
    rfl

theorem crashTo_zero (ks : List Int) (S : FS) : crashTo ks S 0 = S := by
  unfold crashTo; rw [List.take_zero, crashL_nil]; simp
theorem crashTo_end (ks : List Int) (S : FS) : crashTo ks S S.length = crashL ks S := by
  unfold crashTo; simp

theorem crashTo_split (ks : List Int) (S : FS) (k : Nat) (h : k < S.length) : crashTo ks S k = crashL ks (S.take k) ++ S[k] :: S.drop (k + 1) := by
  unfold crashTo; rw [List.drop_eq_getElem_cons h]
theorem crashTo_next (ks : List Int) (S : FS) (k : Nat) (h : k < S.length) :
    crashTo ks S (k + 1) = crashL ks (S.take k) ++ ((if cutN S[k].2 (ks.getD k 0) = 0 then [] else [(S[k].1, S[k].2.1.take (cutN S[k].2 (ks.getD k 0)), cutN S[k].2 (ks.getD k 0))]) ++ S.drop (k + 1)) := by
  unfold crashTo
  have hl : (S.take k).length = k := by rw [List.length_take]; omega
  rw [List.take_succ_eq_append_getElem h, crashL_snoc, hl, List.append_assoc]

/-- What stays of a file. -/
theorem mem_crashL : ∀ {S : FS} {ks : List Int} {p : Fl}, p ∈ crashL ks S → ∃ q ∈ S, p.1 = q.1 ∧ ∃ c, p.2 = (q.2.1.take (cutN q.2 c), cutN q.2 c) ∧ cutN q.2 c ≠ 0
  | [], ks, p, h => by rw [crashL_nil] at h; cases h
  | q :: S, ks, p, h => by
    rcases List.mem_append.1 (show p ∈ _ ++ crashL ks.tail S from h) with h1 | h1
    · split at h1
      · cases h1
      · rename_i hne
        rw [List.mem_singleton.1 h1]
        exact ⟨q, by simp, rfl, _, rfl, hne⟩
    · obtain ⟨q', h2, h3⟩ := mem_crashL h1
      exact ⟨q', by simp [h2], h3⟩

theorem names_crashL : ∀ (S : FS) (ks : List Int), ((crashL ks S).map (·.1)).Sublist (S.map (·.1))
  | [], ks => by rw [crashL_nil]; exact List.Sublist.refl _
  | q :: S, ks => by
    show ((_ ++ crashL ks.tail S).map _).Sublist _
    rw [List.map_append]
    have := names_crashL S ks.tail
    split
    · exact List.Sublist.cons _ this
    · exact List.Sublist.cons_cons _ this

theorem rise_iff (S : FS) : Rise S ↔ (S.map (·.1)).Pairwise (fun a b => bytesBefore a b = true) := by
  unfold Rise; rw [List.pairwise_map]

theorem rise_crashL {S : FS} (h : Rise S) (ks : List Int) : Rise (crashL ks S) := (rise_iff _).2 (((rise_iff _).1 h).sublist (names_crashL S ks))

theorem tot_crashL : ∀ {S : FS}, (∀ p ∈ S, p.2.2 ≤ p.2.1.length) → ∀ ks, tot (crashL ks S) ≤ tot S
  | [], _, ks => by rw [crashL_nil]; exact Nat.le_refl _
  | q :: S, h, ks => by
    show tot (_ ++ crashL ks.tail S) ≤ _
    have h1 := tot_crashL (S := S) (fun p hp => h p (List.mem_cons_of_mem _ hp)) ks.tail
    have h2 := (cutN_le (h q (by simp)) (ks.headD 0)).2
    rw [tot_append, tot_cons]
    split
    · rw [tot_nil]; omega
    · rw [tot_cons, tot_nil, List.length_take]; omega

/-- A crash leaves of a file what of the file alone. -/
theorem fget_crashL {S : FS} (hS : Rise S) (ks : List Int) (n : List UInt8) :
    ∃ c, fget (crashL ks S) n = match fget S n with | some f => (if cutN f c = 0 then none else some (f.1.take (cutN f c), cutN f c)) | none => none := by
  induction S generalizing ks with
  | nil => exact ⟨0, by rw [crashL_nil]; rfl⟩
  | cons q S ih =>
    rw [fget_cons]
    by_cases h : q.1 = n
    · refine ⟨ks.headD 0, ?_⟩
      rw [if_pos h]
      simp only
      have hno : fget (crashL ks.tail S) n = none := fget_none_iff.2 (fun p hp => by
        obtain ⟨q', h2, h3, _⟩ := mem_crashL hp
        rw [h3, ← h]
        exact (ne_of_before (hS.head q' h2)).symm)
      show fget ((if _ then _ else _) ++ crashL ks.tail S) n = _
      split
      · exact hno
      · show fget (_ :: crashL ks.tail S) n = _
        rw [fget_cons, if_pos h]
    · rw [if_neg h]
      obtain ⟨c, hc⟩ := ih hS.tail ks.tail
      refine ⟨c, ?_⟩
      rw [← hc]
      show fget ((if _ then _ else _) ++ crashL ks.tail S) n = _
      split
      · rfl
      · show fget (_ :: crashL ks.tail S) n = _
        rw [fget_cons, if_neg h]

end Go.Proofs.Ytokldcifhjkmnaa
