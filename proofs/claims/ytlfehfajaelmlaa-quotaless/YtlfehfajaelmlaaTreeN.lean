/- A node of a list that lies in memory: where it is. -/
import Derived.Test.YtlfehfajaelmlaaTreeF9
namespace Go.Proofs.Ytlfehfajaelmlaa
open Go.RowKit

theorem NL.dir {w : World} {a : Option Addr} {n : Nat} {xs : NS} (h : NL w a n xs) {b off : Nat} (ha : a = some ⟨b, off, none⟩) {i : Nat} (hi : i < xs.length) : w.cell? ⟨b, off + i * 5 + 1, none⟩ = some (.bool xs[i].dir) := by
  obtain ⟨b', off', ps, k1, k2, k3⟩ := h.ex
  have hip : i < ps.length := by rw [← List.length_map (f := (·.1)), k1]; exact hi
  have e := k3.addr (by omega)
  rw [ha] at e
  cases e
  have e1 := (k3.at hip).2.1
  rw [e1]
  subst k1
  simp

theorem NL.addr {w : World} {a : Option Addr} {n : Nat} {xs : NS} (h : NL w a n xs) (hp : 0 < n) : ∃ b off, a = some ⟨b, off, none⟩ := by
  obtain ⟨b, off, ps, k1, k2, k3⟩ := h.ex
  exact ⟨b, off, k3.addr (by rw [← List.length_map (f := (·.1)), k1, k2]; exact hp)⟩

end Go.Proofs.Ytlfehfajaelmlaa
