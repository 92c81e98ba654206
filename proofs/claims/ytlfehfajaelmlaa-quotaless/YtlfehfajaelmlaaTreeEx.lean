/- The chapter's tree, in plain words. No program in it. -/
import Derived.Test.YtlfehfajaelmlaaTreeT1
namespace Go.Proofs.Ytlfehfajaelmlaa
open Go.RowKit

theorem good_of {ns : List ByteArray} (h1 : ns.all nameB = true) (h2 : ns.length ≤ 6) (h3 : (pathL ns).length ≤ 120) : Good ns := ⟨List.all_eq_true.1 h1, h2, h3⟩
theorem exP {p : ByteArray} {ns : List ByteArray} (g : Good ns) (h : pathT ns = p) : splitX p = (ns, 0) := by rw [← h]; exact splitX_good g
theorem lit_le (s : ByteArray) (h : s.size ≤ 100) : s.size ≤ maxLen := by unfold maxLen; omega

def pA : ByteArray := ⟨#[47, 97]⟩
def pAX : ByteArray := ⟨#[47, 97, 47, 120]⟩
def pB : ByteArray := ⟨#[47, 98]⟩
def pAXY : ByteArray := ⟨#[47, 97, 47, 120, 47, 121]⟩
def pAB : ByteArray := ⟨#[47, 97, 47, 98]⟩
def pBC : ByteArray := ⟨#[47, 98, 47, 99]⟩
def pBCX : ByteArray := ⟨#[47, 98, 47, 99, 47, 120]⟩
def nA : ByteArray := ⟨#[97]⟩
def nB : ByteArray := ⟨#[98]⟩
def nC : ByteArray := ⟨#[99]⟩
def nX : ByteArray := ⟨#[120]⟩
def nY : ByteArray := ⟨#[121]⟩
def dirN (p : ByteArray) : Nd := ⟨p, true, -1, [], -1⟩
def fileN (p : ByteArray) : Nd := ⟨p, false, -1, [], -1⟩
def base0 : NS := [dirN rootP, dirN pA, fileN pAX, dirN pB]
def base1 : NS := [dirN rootP, dirN pB, dirN pBC, fileN pBCX]

theorem sR : splitX rootP = ([], 0) := exP good_nil rfl
theorem sA : splitX pA = ([nA], 0) := exP (good_of (by decide) (by decide) (by decide)) (by decide)
theorem sAX : splitX pAX = ([nA, nX], 0) := exP (good_of (by decide) (by decide) (by decide)) (by decide)
theorem sB : splitX pB = ([nB], 0) := exP (good_of (by decide) (by decide) (by decide)) (by decide)
theorem sAXY : splitX pAXY = ([nA, nX, nY], 0) := exP (good_of (by decide) (by decide) (by decide)) (by decide)
theorem sAB : splitX pAB = ([nA, nB], 0) := exP (good_of (by decide) (by decide) (by decide)) (by decide)
theorem sBC : splitX pBC = ([nB, nC], 0) := exP (good_of (by decide) (by decide) (by decide)) (by decide)
theorem sBCX : splitX pBCX = ([nB, nC, nX], 0) := exP (good_of (by decide) (by decide) (by decide)) (by decide)

theorem eOf {p : ByteArray} {ns : List ByteArray} (h : splitX p = (ns, 0)) : splitE p = 0 := by unfold splitE; rw [h]
theorem nOf {p : ByteArray} {ns : List ByteArray} (h : splitX p = (ns, 0)) : splitN p = ns := by unfold splitN; rw [h]
theorem bOf {p : ByteArray} {ns : List ByteArray} (h : splitX p = (ns, 0)) : pathB p = true := by unfold pathB; rw [eOf h]; rfl

theorem pxOf {p d n : ByteArray} {ns : List ByteArray} (h : splitX p = (ns ++ [n], 0)) (hd : pathT ns = d) : parentX p = (d, n, 0) := by
  unfold parentX
  rw [eOf h, nOf h]
  simp [hd]

theorem xA : parentX pA = (rootP, nA, 0) := pxOf (ns := []) sA rfl
theorem xAX : parentX pAX = (pA, nX, 0) := pxOf (ns := [nA]) sAX (by decide)
theorem xB : parentX pB = (rootP, nB, 0) := pxOf (ns := []) sB rfl
theorem xAXY : parentX pAXY = (pAX, nY, 0) := pxOf (ns := [nA, nX]) sAXY (by decide)
theorem xBC : parentX pBC = (pB, nC, 0) := pxOf (ns := [nB]) sBC (by decide)
theorem xR : (parentX rootP).2.2 = 1 := by
  unfold parentX
  rw [eOf sR, nOf sR]; rfl

theorem dOf {p d n : ByteArray} (h : parentX p = (d, n, 0)) : parD p = d := by unfold parD; rw [h]

theorem fits_dirN {p : ByteArray} {ns : List ByteArray} (h : splitX p = (ns, 0)) : fitsB (dirN p) = true := by
  unfold fitsB
  show (pathB p && dirB (dirN p)) = true
  rw [bOf h]
  unfold dirB dirN
  simp
theorem fits_fileN {p : ByteArray} {ns : List ByteArray} (h : splitX p = (ns, 0)) (hr : p ≠ rootP) : fitsB (fileN p) = true := by
  unfold fitsB
  show (pathB p && fileB (fileN p)) = true
  rw [bOf h]
  unfold fileB headB fileN
  simp [hr]

theorem lt_lit {a b : ByteArray} (h : Op.bytesLess a.data.toList b.data.toList = true) : ltB a b = true := by unfold ltB; rw [Lib.toList_data, Lib.toList_data]; exact h
theorem asc4 {a b c d : Nd} (h1 : ltB a.path b.path = true) (h2 : ltB b.path c.path = true) (h3 : ltB c.path d.path = true) : Asc [a, b, c, d] := by
  unfold Asc
  simp only [List.pairwise_cons, List.mem_cons, List.not_mem_nil, or_false]
  refine ⟨fun x hx => ?_, fun x hx => ?_, fun x hx => ?_, fun x hx => hx.elim, List.Pairwise.nil⟩
  · rcases hx with rfl | rfl | rfl
    · exact h1
    · exact ltB_trans h1 h2
    · exact ltB_trans (ltB_trans h1 h2) h3
  · rcases hx with rfl | rfl
    · exact h2
    · exact ltB_trans h2 h3
  · subst hx; exact h3

theorem right0 : Right base0 := by
  refine right_of ?_ (by decide) ⟨dirN rootP, by simp [base0], rfl⟩ ?_ ?_
  · exact asc4 (lt_lit (by decide)) (lt_lit (by decide)) (lt_lit (by decide))
  · intro x hx
    simp only [base0, List.mem_cons, List.mem_nil_iff, or_false] at hx
    rcases hx with rfl | rfl | rfl | rfl
    · exact fits_dirN sR
    · exact fits_dirN sA
    · exact fits_fileN sAX (by decide)
    · exact fits_dirN sB
  · intro x hx hr
    simp only [base0, List.mem_cons, List.mem_nil_iff, or_false] at hx
    rcases hx with rfl | rfl | rfl | rfl
    · exact absurd rfl hr
    · exact ⟨dirN rootP, by simp [base0], (dOf xA).symm, rfl⟩
    · exact ⟨dirN pA, by simp [base0], (dOf xAX).symm, rfl⟩
    · exact ⟨dirN rootP, by simp [base0], (dOf xB).symm, rfl⟩

theorem exL : ListE base0 rootP 0 := .ok right0 (bOf sR) (by decide)
theorem inB_of {p q d n : ByteArray} (x : Nd) (hx : x.path = p) (h : parentX p = (d, n, 0)) : inB q x = decide (d = q) := by
  unfold inB parD; rw [hx, h]; simp
theorem exN : namesL base0 rootP = [nA, nB] := by
  unfold namesL base0
  have i0 : inB rootP (dirN rootP) = false := by unfold inB; rw [show (dirN rootP).path = rootP from rfl, xR]; rfl
  have i1 : inB rootP (dirN pA) = true := (inB_of _ rfl xA).trans (by decide)
  have i2 : inB rootP (fileN pAX) = false := (inB_of _ rfl xAX).trans (by decide)
  have i3 : inB rootP (dirN pB) = true := (inB_of _ rfl xB).trans (by decide)
  simp only [List.filter, i0, i1, i2, i3, List.map]
  unfold nameN
  rw [show (dirN pA).path = pA from rfl, show (dirN pB).path = pB from rfl, xA, xB]

theorem exAdd : AddE base0 (fileN pAXY) 7 := .par 7 right0 (fits_fileN sAXY (by decide)) (by decide) (by decide) (by
  rw [show (fileN pAXY).path = pAXY from rfl, dOf xAXY]; decide) (by decide)

theorem uOf {p q : ByteArray} {ns ms : List ByteArray} (hp : splitX p = (ns, 0)) (hq : splitX q = (ms, 0)) : underB p q = decide (ms.take ns.length = ns) := by
  unfold underB
  rw [eOf hp, eOf hq, nOf hp, nOf hq]; rfl

theorem exM1 : MovE base0 pA pAB 1 := .arg (fun h => by
  have := h.2.2.2.2.2
  rw [uOf sA sAB] at this
  revert this; decide)

theorem mOf {p f t q : ByteArray} {ps fs ts : List ByteArray} (hp : splitX p = (ps, 0)) (hf : splitX f = (fs, 0)) (ht : splitX t = (ts, 0)) (hu : ps.take fs.length = fs) (hg : Good (ts ++ ps.drop fs.length)) (hq : pathT (ts ++ ps.drop fs.length) = q) : moveX p f t = (q, 0) := by
  unfold moveX
  rw [if_pos ⟨by rw [uOf hf hp, decide_eq_true hu], eOf ht⟩, nOf hp, nOf hf, nOf ht, joinX_good hg, hq]

theorem m1 : moveX pA pA pBC = (pBC, 0) := mOf sA sA sBC (by decide) (good_of (by decide) (by decide) (by decide)) (by decide)
theorem m2 : moveX pAX pA pBC = (pBCX, 0) := mOf sAX sA sBC (by decide) (good_of (by decide) (by decide) (by decide)) (by decide)
theorem u0 : underB pA rootP = false := (uOf sA sR).trans (by decide)
theorem u1 : underB pA pA = true := (uOf sA sA).trans (by decide)
theorem u2 : underB pA pAX = true := (uOf sA sAX).trans (by decide)
theorem u3 : underB pA pB = false := (uOf sA sB).trans (by decide)

theorem exM2 : MovE base0 pA pBC 0 := by
  refine .ok right0 (bOf sA) (by decide) (bOf sBC) (by decide) ((uOf sA sBC).trans (by decide)) (by decide) (by rw [dOf xBC]; decide) (fun h => absurd (by decide : at? base0 pBC = none) h) ?_
  intro x hx hu
  simp only [base0, List.mem_cons, List.mem_nil_iff, or_false] at hx
  rcases hx with rfl | rfl | rfl | rfl
  · rw [show (dirN rootP).path = rootP from rfl, u0] at hu; cases hu
  · rw [show (dirN pA).path = pA from rfl, m1]
  · rw [show (fileN pAX).path = pAX from rfl, m2]
  · rw [show (dirN pB).path = pB from rfl, u3] at hu; cases hu

theorem exML : movL base0 pA pBC = base1 := by
  unfold movL
  have h1 : base0.filter (stayB pA pBC) = [dirN rootP, dirN pB] := by
    unfold base0
    have i0 : stayB pA pBC (dirN rootP) = true := by unfold stayB; rw [show (dirN rootP).path = rootP from rfl, u0]; decide
    have i1 : stayB pA pBC (dirN pA) = false := by unfold stayB; rw [show (dirN pA).path = pA from rfl, u1]; decide
    have i2 : stayB pA pBC (fileN pAX) = false := by unfold stayB; rw [show (fileN pAX).path = pAX from rfl, u2]; decide
    have i3 : stayB pA pBC (dirN pB) = true := by unfold stayB; rw [show (dirN pB).path = pB from rfl, u3]; decide
    simp only [List.filter, i0, i1, i2, i3]
  have h2 : (base0.filter (goesB pA)).map (movN pA pBC) = [dirN pBC, fileN pBCX] := by
    unfold base0
    have i0 : goesB pA (dirN rootP) = false := u0
    have i1 : goesB pA (dirN pA) = true := u1
    have i2 : goesB pA (fileN pAX) = true := u2
    have i3 : goesB pA (dirN pB) = false := u3
    simp only [List.filter, i0, i1, i2, i3, List.map]
    unfold movN
    rw [show (dirN pA).path = pA from rfl, show (fileN pAX).path = pAX from rfl, m1, m2]; rfl
  rw [h1, h2]
  refine (sortN_is (List.Perm.refl _) ?_).symm
  exact asc4 (lt_lit (by decide)) (lt_lit (by decide)) (lt_lit (by decide))

end Go.Proofs.Ytlfehfajaelmlaa
