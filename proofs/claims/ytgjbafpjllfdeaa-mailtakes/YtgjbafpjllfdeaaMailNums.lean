/- Messages that are numbered; a block that stays. -/
import Derived.Test.YtgjbafpjllfdeaaMailEx
namespace Go.Proofs.Ytgjbafpjllfdeaa
open Go.RowKit

def nums (d : ByteArray) (k : Nat) : ML := (List.range k).map (fun (j : Nat) => ((⟨(j : Int), d⟩ : Msg), 0))
theorem nums_len (d : ByteArray) (k : Nat) : (nums d k).length = k := by simp [nums]
theorem nums_zero (d : ByteArray) : nums d 0 = [] := rfl
theorem nums_succ (d : ByteArray) (k : Nat) : nums d (k + 1) = nums d k ++ [((⟨(k : Int), d⟩ : Msg), 0)] := by simp [nums, List.range_succ]
theorem nums_at (d : ByteArray) (k j : Nat) (h : j < (nums d k).length) : (nums d k)[j] = ((⟨(j : Int), d⟩ : Msg), 0) := by simp [nums]

theorem nums_send (d : ByteArray) (k : Nat) (hk : k < 50) (hd : d.size ≤ 4000) : sendE (nums d k) ⟨(k : Int), d⟩ = 0 ∧ sendL (nums d k) ⟨(k : Int), d⟩ = nums d (k + 1) := by
  have h : ¬ (50 ≤ (nums d k).length ∨ 4000 < (⟨(k : Int), d⟩ : Msg).d.size) := by rw [nums_len]; show ¬ (50 ≤ k ∨ 4000 < d.size); omega
  unfold sendE sendL
  rw [if_neg h, if_neg h, nums_succ]
  exact ⟨rfl, rfl⟩

/-- A block of what a call made, kept. -/
theorem Sep.keep {w0 w w' : World} {L : List (Nat × Option Obj)} {A1 A2 : Thing} (h : Sep w0 L w A1 A2) (s1 : St A1) (s2 : St A2) (hb : Below w.heap.size w w') (b : Nat) (h1 : w.heap.size ≤ b) (h2 : b < w'.heap.size) : Sep w0 ((b, w'.heap[b]?) :: L) w' A1 A2 := by
  obtain ⟨O1, O2, e1, e2, e3, e4, e5, e6, e7⟩ := h.out
  have hs : Stay (fun _ => False) w w' := Stay.of_below hb
  refine ⟨O1, O2, s1 _ _ _ _ e1 hs (fun _ _ e => e), s2 _ _ _ _ e2 hs (fun _ _ e => e), e3, fun k hk => ⟨(e4 k hk).1, Nat.lt_of_lt_of_le (e4 k hk).2 hb.size⟩, fun k hk => ⟨(e5 k hk).1, Nat.lt_of_lt_of_le (e5 k hk).2 hb.size⟩, bel_tr e6 hb, fun q hq => ?_⟩
  rcases List.mem_cons.1 hq with rfl | hq
  · exact ⟨fun e => by have := (e4 _ e).2; omega, fun e => by have := (e5 _ e).2; omega, h2, rfl⟩
  · obtain ⟨a, b, c, d⟩ := e7 q hq; exact ⟨a, b, Nat.lt_of_lt_of_le c hb.size, (hb.block q.1 c).trans d⟩

end Go.Proofs.Ytgjbafpjllfdeaa
