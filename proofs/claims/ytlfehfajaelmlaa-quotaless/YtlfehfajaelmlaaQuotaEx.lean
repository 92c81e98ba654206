/- The chapter's tree, in plain words. No program in it. -/
import Derived.Test.YtlfehfajaelmlaaTreeEx
import Derived.Test.YtlfehfajaelmlaaQuotaM
namespace Go.Proofs.Ytlfehfajaelmlaa
open Go.RowKit

def dirQ (p : ByteArray) (q : Int) : Nd := ⟨p, true, q, [], -1⟩
def base8 : NS := [dirN rootP, dirQ pA 3, fileN pAX]

theorem asc3 {a b c : Nd} (h1 : ltB a.path b.path = true) (h2 : ltB b.path c.path = true) : Asc [a, b, c] := by
  unfold Asc
  simp only [List.pairwise_cons, List.mem_cons, List.not_mem_nil, or_false]
  refine ⟨fun x hx => ?_, fun x hx => ?_, fun x hx => hx.elim, List.Pairwise.nil⟩
  · rcases hx with rfl | rfl
    · exact h1
    · exact ltB_trans h1 h2
  · subst hx; exact h2

theorem right8 : Right base8 := by
  refine right_of ?_ (by decide) ⟨dirN rootP, by simp [base8], rfl⟩ ?_ ?_
  · exact asc3 (lt_lit (by decide)) (lt_lit (by decide))
  · intro x hx
    simp only [base8, List.mem_cons, List.mem_nil_iff, or_false] at hx
    rcases hx with rfl | rfl | rfl
    · exact fits_dirN sR
    · unfold fitsB
      show (pathB pA && dirB (dirQ pA 3)) = true
      rw [bOf sA]
      unfold dirB dirQ
      simp
    · exact fits_fileN sAX (by decide)
  · intro x hx hr
    simp only [base8, List.mem_cons, List.mem_nil_iff, or_false] at hx
    rcases hx with rfl | rfl | rfl
    · exact absurd rfl hr
    · exact ⟨dirN rootP, by simp [base8], (dOf xA).symm, rfl⟩
    · exact ⟨dirQ pA 3, by simp [base8], (dOf xAX).symm, rfl⟩

theorem cA : cntL base8 pA = 2 := by
  unfold cntL base8
  have i0 : underB pA (dirN rootP).path = false := u0
  have i1 : underB pA (dirQ pA 3).path = true := u1
  have i2 : underB pA (fileN pAX).path = true := u2
  simp only [List.filter, i0, i1, i2]; rfl
theorem cR : cntL base8 rootP = 3 := by
  unfold cntL base8
  have i0 : underB rootP (dirN rootP).path = true := (uOf sR sR).trans (by decide)
  have i1 : underB rootP (dirQ pA 3).path = true := (uOf sR sA).trans (by decide)
  have i2 : underB rootP (fileN pAX).path = true := (uOf sR sAX).trans (by decide)
  simp only [List.filter, i0, i1, i2]; rfl

theorem roomS_no {xs : NS} {p : ByteArray} {r : Int} {x : Nd} (h : x.quota = -1) : roomS xs p r x = r := by
  unfold roomS
  rw [if_neg]
  rw [h]
  rintro ⟨h1, _⟩
  omega

theorem rA : roomI base8 pA = 1 := by
  unfold roomI
  rw [if_pos (by decide)]
  have e : roomF base8 pA (60 - (base8.length : Int)) base8 = roomS base8 pA (roomS base8 pA (roomS base8 pA 57 (dirN rootP)) (dirQ pA 3)) (fileN pAX) := rfl
  rw [e, roomS_no (x := fileN pAX) rfl, roomS_no (x := dirN rootP) rfl]
  unfold roomS dirQ
  simp only
  rw [if_pos ⟨by decide, u1⟩, cA]
  decide
theorem rR : roomI base8 rootP = 57 := by
  unfold roomI
  rw [if_pos (by decide)]
  have e : roomF base8 rootP (60 - (base8.length : Int)) base8 = roomS base8 rootP (roomS base8 rootP (roomS base8 rootP 57 (dirN rootP)) (dirQ pA 3)) (fileN pAX) := rfl
  rw [e, roomS_no (x := fileN pAX) rfl, roomS_no (x := dirN rootP) rfl]
  unfold roomS dirQ
  simp only
  rw [if_neg (fun e => by have := e.2; rw [u0] at this; cases this)]
  decide
theorem oE : overL base8 = [] := by
  unfold overL
  rw [List.map_eq_nil_iff, List.filter_eq_nil_iff]
  intro x hx
  simp only [base8, List.mem_cons, List.mem_nil_iff, or_false] at hx
  rcases hx with rfl | rfl | rfl
  · decide
  · unfold overB
    have e : (dirQ pA 3).path = pA := rfl
    rw [e, cA]
    decide
  · decide

end Go.Proofs.Ytlfehfajaelmlaa
