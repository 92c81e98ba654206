/- A beginning of logs; an entry's text written. -/
import Derived.Test.YtapnjgmihfmapaaChsL2
namespace Go.Proofs.Ytapnjgmihfmapaa.Chs
open Go.RowKit Go.Proofs.Ytapnjgmihfmapaa Go.Proofs.Ytapnjgmihfmapaa.Lgg
set_option linter.unusedVariables false

theorem lie_take {α : Type} {f : α → List Value} {k : Nat} {O : Nat → Prop} {w : World} {a : Option Addr} {xs : List α} (hf : Wide f k) (h : Lie f O w a xs) (m : Nat) : Lie f O w a (xs.take m) := by
  refine ⟨Nat.le_trans (by rw [List.length_take]; omega) h.lid, fun hp => ?_⟩
  rw [List.length_take] at hp
  obtain ⟨b, off, h1, h2, h3, h4⟩ := h.cells (by omega)
  refine ⟨b, off, h1, h2, h3, fun j u hu => h4 j u ?_⟩
  rcases Nat.lt_or_ge m xs.length with hm | hm
  · rw [← rowC_take hf xs m (by omega), List.getElem?_take] at hu
    split at hu
    · exact hu
    · cases hu
  · rwa [List.take_of_length_le hm] at hu
theorem LsAt.take {O O2 : Nat → Prop} {w : World} {a : Option Addr} {xs : List Ls} (h : LsAt O O2 w a xs) (m : Nat) : LsAt O O2 w a (xs.take m) :=
  ⟨lie_take wideL h.row m, fun x hx => h.each x (List.mem_of_mem_take hx), fun x hx => h.eps x (List.mem_of_mem_take hx), fun x hx => h.room x (List.mem_of_mem_take hx)⟩

theorem com_small {O O2 : Nat → Prop} {w : World} {a : Option Addr} {xs : List Ls} (h : LsAt O O2 w a xs) {N : Nat} (hN : 1 ≤ N) : (comT xs N).length * 24 ≤ 140737488355328 := by
  cases ht : topI xs N xs.length with
  | none => rw [com_none ht]; simp
  | some e =>
    obtain ⟨q, hq, _, _, h3, _⟩ := com_some hN ht
    have := (h.room _ (List.getElem_mem hq)).2
    rw [h3, List.length_take]
    omega

theorem set_data {O : Nat → Prop} {w : World} {a : Option Addr} {n c g : Nat} {es : List En} (h : Cel O w 2 (.slice a n c) n (rowC enC es) (some g)) (hn : es.length = n) (i : Nat) (hi : i < es.length) (s : ByteArray) :
    Cel O (w.setCell ⟨g, i * 2 + 1, none⟩ (.string s)) 2 (.slice a n c) n (rowC enC (es.set i ⟨es[i].tx, s⟩)) (some g) := by
  have hcap := h.cap2.1
  have hl : (rowC enC (es.set i ⟨es[i].tx, s⟩)).length = n * 2 := by rw [rowC_len wideN, List.length_set, hn]
  refine h.setCells (i * 2 + 1) [.string s] (by simp; omega) n _ hcap hl (fun j hj => ?_)
  have hj2 : j / 2 < es.length := by omega
  have hj3 : j / 2 < (es.set i ⟨es[i].tx, s⟩).length := by rw [List.length_set]; exact hj2
  have ej : j / 2 * 2 + j % 2 = j := by omega
  have e1 := rowC_at wideN (es.set i ⟨es[i].tx, s⟩) (j / 2) hj3 (j % 2) (by omega)
  have e0 := rowC_at wideN es (j / 2) hj2 (j % 2) (by omega)
  rw [ej] at e1 e0
  rw [← List.getElem?_eq_getElem hj, e1, e0]
  simp only [List.length_cons, List.length_nil]
  by_cases hji : j = i * 2 + 1
  · subst hji
    rw [if_pos ⟨by omega, by omega⟩]
    have h1 : (i * 2 + 1) / 2 = i := by omega
    have h2 : (i * 2 + 1) % 2 = 1 := by omega
    simp only [h1, h2, List.getElem_set_self]
    simp [enC]
  · rw [if_neg (by omega)]
    by_cases hi2 : j / 2 = i
    · have h2 : j % 2 = 0 := by omega
      subst hi2
      simp only [List.getElem_set_self, h2]
      rfl
    · rw [List.getElem_set_ne (fun e => hi2 e.symm)]

end Go.Proofs.Ytapnjgmihfmapaa.Chs
