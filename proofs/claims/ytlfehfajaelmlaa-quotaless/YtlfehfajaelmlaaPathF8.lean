/- The contracts of path.Under and path.Move. -/
import Derived.Test.YtlfehfajaelmlaaPathF6
import Derived.Test.YtlfehfajaelmlaaPathF7
namespace Go.Proofs.Ytlfehfajaelmlaa
open Go.RowKit

set_option maxRecDepth 100000 in
theorem under_val (a b : ByteArray) (u : Bool) (w : World) (hs : a.size ≤ maxLen) (hs2 : b.size ≤ maxLen) (hu : underB a b = u) :
    Calls Try.prog 25 #[.string a, .string b] w fun e w' => e = .returned (.bool u) ∧ Below w.heap.size w w' := by
  obtain ⟨n, hn⟩ : ∃ n, (belowN a b).length = n := ⟨_, rfl⟩
  have HN : Hid ((belowN a b).length = n) := hn
  have HU : Hid (underB a b = u) := hu
  clear hn hu
  go_enter Try.func25, Try.ntmps25
  go_wp2_with fail
  refine (below_val a b _ u n _ hs hs2 rfl HU.out HN.out).mono ?_
  rintro e w1 ⟨⟨x, b1, off, cap, rfl, hS⟩, c1⟩
  clear hS
  go_wp2
  go_ret
  exact ⟨rfl, c1⟩

theorem moveX_no {p f t : ByteArray} (h : ¬ (underB f p = true ∧ splitE t = 0)) : moveX p f t = (⟨#[]⟩, 1) := if_neg h
theorem moveX_yes {p f t : ByteArray} (h : underB f p = true) (h2 : splitE t = 0) : moveX p f t = joinX (splitN t ++ belowN f p) := by
  rw [below_yes h]; exact if_pos ⟨h, h2⟩

theorem below_few {a b : ByteArray} : (belowN a b).length ≤ 6 := by
  have h : (splitN b).length ≤ 6 := split_few
  unfold belowN; split
  · rw [List.length_drop]; omega
  · simp

end Go.Proofs.Ytlfehfajaelmlaa
