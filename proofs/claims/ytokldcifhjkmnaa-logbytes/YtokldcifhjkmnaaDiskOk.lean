/- A disk without a fuse: what each call does, if it may. -/
import Derived.Test.YtokldcifhjkmnaaDiskOne
namespace Go.Proofs.Ytokldcifhjkmnaa
open Go.RowKit

theorem refA_ok {room f : Int} {dn : Bool} {S : FS} {n d : List UInt8} (h1 : nameOk n = true) (h2 : flen (fget S n) + d.length ≤ 400000) (h3 : (fget S n).isSome = true ∨ S.length < 20) (h4 : ((tot S + d.length : Nat) : Int) ≤ room) : refA ⟨room, f, dn, S⟩ n d = 0 := by
  unfold refA
  rw [if_pos h1]
  have e1 : ¬ 400000 < flen (fget S n) + d.length := by omega
  have e2 : ¬ ((fget S n).isNone = true ∧ 20 ≤ S.length) := fun ⟨e, e'⟩ => by
    rcases h3 with h | h
    · cases hf : fget S n with
      | none => rw [hf] at h; cases h
      | some _ => rw [hf] at e; cases e
    · omega
  have e3 : ¬ room < ((tot S + d.length : Nat) : Int) := by omega
  show (if 400000 < flen (fget S n) + d.length then _ else if (fget S n).isNone = true ∧ 20 ≤ S.length then _ else if room < ((tot S + d.length : Nat) : Int) then _ else _) = (0 : Int)
  rw [if_neg e1, if_neg e2, if_neg e3]

theorem refA_full {room f : Int} {dn : Bool} {S : FS} {n d : List UInt8} (h1 : nameOk n = true) (h2 : flen (fget S n) + d.length ≤ 400000) (h3 : (fget S n).isSome = true ∨ S.length < 20) (h4 : room < ((tot S + d.length : Nat) : Int)) : refA ⟨room, f, dn, S⟩ n d = 8 := by
  unfold refA
  rw [if_pos h1]
  have e1 : ¬ 400000 < flen (fget S n) + d.length := by omega
  have e2 : ¬ ((fget S n).isNone = true ∧ 20 ≤ S.length) := fun ⟨e, e'⟩ => by
    rcases h3 with h | h
    · cases hf : fget S n with
      | none => rw [hf] at h; cases h
      | some _ => rw [hf] at e; cases e
    · omega
  show (if 400000 < flen (fget S n) + d.length then _ else if (fget S n).isNone = true ∧ 20 ≤ S.length then _ else if room < ((tot S + d.length : Nat) : Int) then _ else _) = (8 : Int)
  rw [if_neg e1, if_neg e2, if_pos h4]

theorem refM_some {S : FS} {n : List UInt8} {f : List UInt8 × Nat} (h : fget S n = some f) : refM S n = 0 := by unfold refM; rw [h]; rfl
theorem refM_none {S : FS} {n : List UInt8} (h : fget S n = none) : refM S n = 5 := by unfold refM; rw [h]; rfl

section
variable {w0 w : World} {pd : Nat} {room : Int} {S S' : FS}

theorem ok_append (h : One w0 w pd ⟨room, 0, false, S⟩) (s d : ByteArray) (hs : s.size ≤ maxLen) (hd : d.size ≤ 140737488355328) (hr : refA ⟨room, 0, false, S⟩ s.data.toList d.data.toList = 0) (hS : fapp s.data.toList d.data.toList S = S') :
    Calls Try.prog 15 #[.pointer (some ⟨pd, 0, none⟩), .string s, .string d] w fun e w' => e = .returned (.int .i64 0) ∧ One w0 w' pd ⟨room, 0, false, S'⟩ :=
  one_append h s d hs hd 0 (by rw [begE_plain]; exact hr) (by rw [hr, doD_plain, hS])

theorem no_append (h : One w0 w pd ⟨room, 0, false, S⟩) (s d : ByteArray) (hs : s.size ≤ maxLen) (hd : d.size ≤ 140737488355328) (q : Int) (hr : refA ⟨room, 0, false, S⟩ s.data.toList d.data.toList = q) (hq : q ≠ 0) :
    Calls Try.prog 15 #[.pointer (some ⟨pd, 0, none⟩), .string s, .string d] w fun e w' => e = .returned (.int .i64 q) ∧ One w0 w' pd ⟨room, 0, false, S⟩ :=
  one_append h s d hs hd q (by rw [begE_plain]; exact hr) (by rw [hr, doD_no _ _ _ hq])

theorem ok_sync (h : One w0 w pd ⟨room, 0, false, S⟩) (s : ByteArray) (hs : s.size ≤ maxLen) (f : List UInt8 × Nat) (hf : fget S s.data.toList = some f) (hS : fsyn s.data.toList S = S') :
    Calls Try.prog 70 #[.pointer (some ⟨pd, 0, none⟩), .string s] w fun e w' => e = .returned (.int .i64 0) ∧ One w0 w' pd ⟨room, 0, false, S'⟩ :=
  one_sync h s hs 0 (by rw [begE_plain]; exact refM_some hf) (by rw [show refM _ _ = 0 from refM_some hf, doD_plain, hS])

theorem ok_delete (h : One w0 w pd ⟨room, 0, false, S⟩) (s : ByteArray) (hs : s.size ≤ maxLen) (f : List UInt8 × Nat) (hf : fget S s.data.toList = some f) (hS : fdel S s.data.toList = S') :
    Calls Try.prog 69 #[.pointer (some ⟨pd, 0, none⟩), .string s] w fun e w' => e = .returned (.int .i64 0) ∧ One w0 w' pd ⟨room, 0, false, S'⟩ :=
  one_delete h s hs 0 (by rw [begE_plain]; exact refM_some hf) (by rw [show refM _ _ = 0 from refM_some hf, doD_plain, hS])

theorem ok_rename (h : One w0 w pd ⟨room, 0, false, S⟩) (s d : ByteArray) (hs : s.size ≤ maxLen) (hd : d.size ≤ maxLen) (f : List UInt8 × Nat) (hn : nameOk d.data.toList = true) (hf : fget S s.data.toList = some f) (hS : fren s.data.toList d.data.toList S = S') :
    Calls Try.prog 53 #[.pointer (some ⟨pd, 0, none⟩), .string s, .string d] w fun e w' => e = .returned (.int .i64 0) ∧ One w0 w' pd ⟨room, 0, false, S'⟩ := by
  have hr : refR S s.data.toList d.data.toList = 0 := by unfold refR; rw [if_pos hn]; exact refM_some hf
  exact one_rename h s d hs hd 0 (by rw [begE_plain]; exact hr) (by rw [show refR _ _ _ = 0 from hr, doD_plain, hS])

theorem ok_crash (h : One w0 w pd ⟨room, 0, false, S⟩) (ka : Option Addr) (kb koff kcap m : Nat) (ks : List Int) (hm : ks.length = m) (hmx : m ≤ maxLen) (hI : Ints w0 .i64 ka kb koff ks) (hks : ∀ k ∈ ks, -9223372036854775808 ≤ k ∧ k ≤ 9223372036854775807) (hS : crashL ks S = S') :
    Calls Try.prog 23 #[.pointer (some ⟨pd, 0, none⟩), .slice ka m kcap] w fun e w' => e = .returned (.tuple #[]) ∧ One w0 w' pd ⟨room, 0, false, S'⟩ :=
  (one_crash h ka kb koff kcap m ks hm hmx hI hks).mono fun _ _ ⟨h1, h2⟩ => ⟨h1, hS ▸ h2⟩

theorem ok_read (h : One w0 w pd ⟨room, 0, false, S⟩) (s : ByteArray) (hs : s.size ≤ maxLen) (t : ByteArray) (sy : Nat) (hf : fget S s.data.toList = some (t.data.toList, sy)) :
    Calls Try.prog 41 #[.pointer (some ⟨pd, 0, none⟩), .string s] w fun e w' => e = .returned (.tuple #[.string t, .int .i64 0]) ∧ One w0 w' pd ⟨room, 0, false, S⟩ :=
  one_read h s hs t 0 (by rw [rdT_eq _ rfl]; show (⟨(fdat S s.data.toList).toArray⟩ : ByteArray) = t; unfold fdat; rw [hf]) (by rw [rdE_eq _ rfl]; exact refM_some hf)

theorem no_read (h : One w0 w pd ⟨room, 0, false, S⟩) (s : ByteArray) (hs : s.size ≤ maxLen) (hf : fget S s.data.toList = none) :
    Calls Try.prog 41 #[.pointer (some ⟨pd, 0, none⟩), .string s] w fun e w' => e = .returned (.tuple #[.string ⟨#[]⟩, .int .i64 5]) ∧ One w0 w' pd ⟨room, 0, false, S⟩ :=
  one_read h s hs ⟨#[]⟩ 5 (by rw [rdT_eq _ rfl]; show (⟨(fdat S s.data.toList).toArray⟩ : ByteArray) = _; unfold fdat; rw [hf]) (by rw [rdE_eq _ rfl]; exact refM_none hf)

end

end Go.Proofs.Ytokldcifhjkmnaa
