/- What the laws keep beside a disk: two logs of their own. -/
import Derived.Test.YtokldcifhjkmnabLogO
namespace Go.Proofs.Ytokldcifhjkmnab.Lgg
open Go.RowKit Go.Proofs.Ytokldcifhjkmnab
set_option linter.unusedVariables false

def jN : ByteArray := ⟨#[106]⟩
theorem j_ok : nmOk jN = true := by decide
theorem j_small : jN.size ≤ maxLen := by show 1 ≤ maxLen; unfold maxLen; omega

/-- A log in a box of K, its row in a block of K. -/
structure Bl (K : Nat → Prop) (W : World) (A : Nat) (l : Lg) (a : Option Addr) (c : Nat) : Prop where
  c0 : W.cell? ⟨A, 0, none⟩ = some (.int .i64 l.ep)
  c1 : W.cell? ⟨A, 1, none⟩ = some (.slice a l.es.length c)
  kA : K A
  row : Lie enC K W a l.es
section
variable {K K' : Nat → Prop} {W W' : World} {A : Nat} {l : Lg} {a : Option Addr} {c : Nat}
theorem Bl.stay {O : Nat → Prop} (h : Bl K W A l a c) (hs : Stay O W W') (hO : ∀ k, K k → ¬ O k) : Bl K W' A l a c := by
  have hb := hs.block A (World.block_lt_of_cell? _ _ h.c0) (hO A h.kA)
  exact ⟨(World.cell?_of_block (a := ⟨A, 0, none⟩) hb).trans h.c0, (World.cell?_of_block (a := ⟨A, 1, none⟩) hb).trans h.c1, h.kA, h.row.stay hs hO⟩
theorem Bl.kept (h : Bl K W A l a c) (hs : Stay (fun k => ¬ K k) W W') : Bl K W' A l a c := h.stay hs (fun k hk e => e hk)
theorem Bl.below (h : Bl K W A l a c) (hb : Below W.heap.size W W') : Bl K W' A l a c := h.stay (O := fun _ => False) (Stay.of_below hb) (fun _ _ => id)
theorem Bl.mono (h : Bl K W A l a c) (hK : ∀ k, K k → k < W.heap.size → K' k) : Bl K' W A l a c := ⟨h.c0, h.c1, hK A h.kA (World.block_lt_of_cell? _ _ h.c0), h.row.mono hK⟩
/-- What 'of' told, laid into a box. -/
theorem Bl.of {base : Nat} {w3 : World} {g : Option Nat} (hC : Cel (fun k => base ≤ k) w3 2 (.slice a l.es.length c) l.es.length (rowC enC l.es) g) (T : TypeId) (hbase : base ≤ w3.heap.size) : Bl (fun k => base ≤ k ∧ k < w3.heap.size + 1) (w3.alloc (.cells #[.int .i64 l.ep, .slice a l.es.length c] T)) w3.heap.size l a c := by
  obtain ⟨q0, q1, _, _⟩ := cells2 w3 (.int .i64 l.ep) (.slice a l.es.length c) T
  have h1 := Lie.of_cel wideN (hC.below (bel_al w3 (.cells #[.int .i64 l.ep, .slice a l.es.length c] T)))
  refine ⟨q0, q1, ⟨hbase, by omega⟩, h1.mono (fun k hk hl => ⟨hk, ?_⟩)⟩
  simpa using hl
end

theorem cel_lt {O : Nat → Prop} {w : World} {k : Nat} {sl : Value} {n : Nat} {cs : List Value} {g : Option Nat} (h : Cel O w k sl n cs g) : Cel (fun q => O q ∧ q < w.heap.size) w k sl n cs g := by
  cases h with
  | nil h1 h2 h3 => exact .nil h1 h2 h3
  | row g cap h1 hl h2 h3 h4 h5 h6 h7 => exact .row g cap h1 hl ⟨h2, h3⟩ h3 h4 h5 h6 h7
theorem enc_small (q : Nat) (hq : q ≤ 1000) (ss : List ByteArray) : (encL (ofL q ss)).size ≤ 20000 := by
  have h1 := encL_size (ep := (ofL q ss).ep) (es := (ofL q ss).es) (ofL_right q hq ss)
  have h2 := ofL_len q ss
  have h3 : few ss ≤ 30 := Nat.min_le_right _ _
  rw [h2] at h1
  have : (encL (ofL q ss)).size ≤ 24 + few ss * 624 := h1
  omega
theorem enc_ne (l : Lg) : (encL l).data.toList ≠ [] := fun e => by
  have h1 := encL_pos l
  have h2 : (encL l).data.toList.length = (encL l).size := Wir.size_list _
  rw [e] at h2
  simp at h2; omega

/-- What is there behind Store, whenever the power goes, and a crash. -/
theorem stored_out (X Y : ByteArray) (hX : X.size ≤ 20000) (hY : Y.size ≤ 20000) (hXn : X.data.toList ≠ []) (hYn : Y.data.toList ≠ []) (N : Nat) (hN : N < 6) :
    ∃ e ds2, stoR ⟨400000, 1 + (N : Int), false, [(jN.data.toList, X.data.toList, X.data.toList.length)]⟩ jN Y = (e, ds2) ∧ ds2.room = 400000 ∧
      ((e = 12 ∧ ∀ ks, ∃ r', crashL ks ds2.S = (jN.data.toList, X.data.toList, X.data.toList.length) :: r') ∨ (e = 0 ∧ ∀ ks, ∃ r', crashL ks ds2.S = (jN.data.toList, Y.data.toList, Y.data.toList.length) :: r')) := by
  have hl : X.data.toList.length = X.size := Wir.size_list X
  have hl2 : Y.data.toList.length = Y.size := Wir.size_list Y
  have hr : ((X.data.toList.length + Y.size : Nat) : Int) ≤ 400000 := by omega
  rcases Nat.lt_or_ge N 3 with h3 | h3
  · rcases (show N = 0 ∨ N = 1 ∨ N = 2 by omega) with rfl | rfl | rfl
    · exact ⟨12, _, sto_one j_ok (by omega) hr, rfl, .inl ⟨rfl, fun ks => crash_head hXn ks _⟩⟩
    · exact ⟨12, _, sto_two j_ok (by omega) hr, rfl, .inl ⟨rfl, fun ks => crash_head hXn ks _⟩⟩
    · exact ⟨12, _, sto_three j_ok (by omega) hr, rfl, .inl ⟨rfl, fun ks => crash_head hXn ks _⟩⟩
  · obtain ⟨f', h4⟩ := sto_on (s := jN) (b := Y) (A := X.data.toList) (a := X.data.toList.length) (room := 400000) (f := 1 + (N : Int)) j_ok (by omega) hr (.inr (by omega))
    refine ⟨0, _, h4, rfl, .inr ⟨rfl, fun ks => ?_⟩⟩
    simp only
    rw [← hl2]
    exact crash_head hYn ks _

end Go.Proofs.Ytokldcifhjkmnab.Lgg
