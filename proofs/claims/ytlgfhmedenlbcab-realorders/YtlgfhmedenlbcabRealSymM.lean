/- Plain: symMerge's two halves, put together. No program in it. -/
import Derived.Test.YtlgfhmedenlbcabRealMergeM
namespace Go.Proofs.Ytlgfhmedenlbcab

/-- Below i in order, all of a to b is what was there. -/
structure InsF (a i b : Nat) (xs ys : List Nat) : Prop where
  mv : Moved a b xs ys
  srt : Srt a i ys

/-- What lies there when the rows have been turned round. -/
structure Halves (a m b mid s : Nat) (xs ys : List Nat) : Prop where
  la : a ≤ s
  ls : s ≤ mid
  lm : s ≤ m
  le : mid + m - s ≤ b
  mv : Moved a b xs ys
  p1 : Srt a s ys
  p2 : Srt s mid ys
  p3 : Srt mid (mid + m - s) ys
  p4 : Srt (mid + m - s) b ys
  cross : Cross a mid b ys
theorem Halves.of {a m b mid s : Nat} {xs ys : List Nat} (hm1 : a < m) (hm2 : m < b) (hmid : mid = (a + b) / 2) (s1 : Srt a m xs) (s2 : Srt m b xs) (h : CutAt a m b mid s xs) (r : Rotated s m (mid + m - s) xs ys) : Halves a m b mid s xs ys := by
  obtain ⟨p1, p2, p3, p4, p5⟩ := cut_parts hm1 hm2 hmid s1 s2 h r
  have q1 := h.ls; have q2 := h.lm; have q3 := h.ld; have q4 := h.le
  exact ⟨q1, q3, q2, q4, (r.moved q2 (by omega)).wide q1 q4, p1, p2, p3, p4, p5⟩
/-- The first half is merged. -/
theorem Halves.left {a m b mid s : Nat} {xs ys zs : List Nat} (h : Halves a m b mid s xs ys) (hz : (a < s ∧ s < mid) ∧ InsF a mid mid ys zs ∨ ¬ (a < s ∧ s < mid) ∧ zs = ys) : Srt a mid zs ∧ Moved a mid ys zs ∧ Srt mid (mid + m - s) zs ∧ Srt (mid + m - s) b zs := by
  have q1 := h.la; have q2 := h.ls; have q3 := h.lm
  rcases hz with ⟨-, hz⟩ | ⟨hn, rfl⟩
  · exact ⟨hz.srt, hz.mv, h.p3.out hz.mv (by omega), h.p4.out hz.mv (by omega)⟩
  · refine ⟨?_, Moved.refl _ _ _, h.p3, h.p4⟩
    by_cases e : a < s
    · have : s = mid := by omega
      subst this; exact h.p1
    · have : a = s := by omega
      subst this; exact h.p2
/-- Both are. -/
theorem Halves.both {a m b mid s : Nat} {xs ys zs vs : List Nat} (h : Halves a m b mid s xs ys) (hmb : mid ≤ b) (ham : a ≤ mid) (hz : (a < s ∧ s < mid) ∧ InsF a mid mid ys zs ∨ ¬ (a < s ∧ s < mid) ∧ zs = ys) (hv : (mid < mid + m - s ∧ mid + m - s < b) ∧ InsF mid b b zs vs ∨ ¬ (mid < mid + m - s ∧ mid + m - s < b) ∧ vs = zs) : InsF a b b xs vs := by
  obtain ⟨l1, l2, l3, l4⟩ := h.left hz
  have q1 := h.la; have q2 := h.ls; have q3 := h.lm; have q4 := h.le
  have hr : Srt mid b vs ∧ Moved mid b zs vs := by
    rcases hv with ⟨-, hv⟩ | ⟨hn, rfl⟩
    · exact ⟨hv.srt, hv.mv⟩
    · refine ⟨?_, Moved.refl _ _ _⟩
      by_cases e : mid < mid + m - s
      · have : mid + m - s = b := by omega
        rw [this] at l3; exact l3
      · have : mid + m - s = mid := by omega
        rw [this] at l4; exact l4
  refine ⟨h.mv.trans ((l2.wide (Nat.le_refl _) hmb).trans (hr.2.wide ham (Nat.le_refl _))), ?_⟩
  exact Srt.join (l1.out hr.2 (by omega)) hr.1 (h.cross.moved l2 hr.2)
end Go.Proofs.Ytlgfhmedenlbcab
