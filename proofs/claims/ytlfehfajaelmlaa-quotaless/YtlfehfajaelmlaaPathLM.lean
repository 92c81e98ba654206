/- Plain facts on paths: what is joined is split, under, moved there and back. -/
import Derived.Test.YtlfehfajaelmlaaPathF8
namespace Go.Proofs.Ytlfehfajaelmlaa

theorem pathT_small {ns : List ByteArray} (h : Good ns) : (pathT ns).size ≤ 120 := by
  rw [pathT_size]; split
  · omega
  · exact h.short

theorem joinX_ok {ns : List ByteArray} {q : ByteArray} (h : joinX ns = (q, 0)) : Good ns ∧ q = pathT ns := by
  rcases joinX_cases ns with ⟨g, e⟩ | ⟨_, e, _⟩ | ⟨_, e, _⟩
  · rw [e] at h; cases h; exact ⟨g, rfl⟩
  · rw [e] at h; cases h
  · rw [e] at h; cases h

theorem joinX_empty {ns : List ByteArray} {q : ByteArray} {E : Int} (h : joinX ns = (q, E)) (hE : E ≠ 0) : q = ⟨#[]⟩ := by
  rcases joinX_cases ns with ⟨g, e⟩ | ⟨_, e, _⟩ | ⟨_, e, _⟩
  · rw [e] at h; cases h; exact absurd rfl hE
  · rw [e] at h; cases h; rfl
  · rw [e] at h; cases h; rfl

theorem splitX_ok {p : ByteArray} (h : splitE p = 0) : p = pathT (splitN p) := (split_ok h).2

theorem moveX_empty {p f t q : ByteArray} {E : Int} (h : moveX p f t = (q, E)) (hE : E ≠ 0) : q = ⟨#[]⟩ := by
  unfold moveX at h
  split at h
  · exact joinX_empty h hE
  · cases h; rfl

theorem move_back {p f t q : ByteArray} (h : moveX p f t = (q, 0)) : moveX q t f = (p, 0) ∧ underB t q = true ∧ q.size ≤ 120 := by
  unfold moveX at h
  split at h
  · rename_i hg
    obtain ⟨hu, ht⟩ := hg
    obtain ⟨hf, hp, hpre⟩ := underB_iff.1 hu
    obtain ⟨g, rfl⟩ := joinX_ok h
    obtain ⟨R, hR⟩ := hpre
    have hd : (splitN p).drop (splitN f).length = R := by rw [← hR, List.drop_left]
    rw [hd] at g ⊢
    have hN := splitN_good g
    have hE := splitE_good g
    have hut : underB t (pathT (splitN t ++ R)) = true := underB_iff.2 ⟨ht, hE, by rw [hN]; exact List.prefix_append _ _⟩
    refine ⟨?_, hut, pathT_small g⟩
    rw [moveX, if_pos ⟨hut, hf⟩, hN, List.drop_left, hR, joinX_good (split_ok hp).1, ← splitX_ok hp]
  · cases h

theorem under_trans {a b c : ByteArray} (h : underB a b = true) (k : underB b c = true) : underB a c = true := by
  obtain ⟨h1, h2, h3⟩ := underB_iff.1 h
  obtain ⟨k1, k2, k3⟩ := underB_iff.1 k
  exact underB_iff.2 ⟨h1, k2, h3.trans k3⟩

theorem under_both {a b : ByteArray} (h : underB a b = true) (k : underB b a = true) : a = b := by
  obtain ⟨h1, h2, h3⟩ := underB_iff.1 h
  obtain ⟨k1, k2, k3⟩ := underB_iff.1 k
  have e : splitN a = splitN b := h3.eq_of_length (Nat.le_antisymm h3.length_le k3.length_le)
  rw [splitX_ok h1, splitX_ok h2, e]

theorem parent_bad {p d n : ByteArray} {E : Int} (h : parentX p = (d, n, E)) (hE : E ≠ 0) : splitE p ≠ 0 ∨ (p.toList == [47]) = true := by
  by_cases h0 : splitE p = 0
  · right
    cases hl : (splitN p).length with
    | zero =>
      have e : splitN p = [] := List.length_eq_zero_iff.1 hl
      have hp := splitX_ok h0
      rw [e, pathT_nil] at hp
      rw [hp, Lib.toList_data]; rfl
    | succ m =>
      rw [parentX_last h0 hl] at h
      cases h
      exact absurd rfl hE
  · exact .inl h0

theorem exR0 : splitN ⟨#[47]⟩ = [] ∧ splitE ⟨#[47]⟩ = 0 := by
  have h : splitX ⟨#[47]⟩ = ([], 0) := splitX_good good_nil
  exact ⟨by unfold splitN; rw [h], by unfold splitE; rw [h]⟩

theorem parent_ok {p d n : ByteArray} (h : parentX p = (d, n, 0)) : splitE p = 0 ∧ splitE d = 0 ∧ splitN p = splitN d ++ [n] ∧ nameB n = true ∧ Good (splitN p) ∧ d.size ≤ 120 ∧ n.size ≤ 20 := by
  by_cases h0 : splitE p = 0
  · cases hl : (splitN p).length with
    | zero =>
      rw [parentX_root h0 (List.length_eq_zero_iff.1 hl)] at h
      cases h
    | succ m =>
      rw [parentX_last h0 hl] at h
      have g := (split_ok h0).1
      have gt := good_take g m
      have hm : m < (splitN p).length := by omega
      cases h
      have hnm := g.names _ (List.getElem_mem hm)
      refine ⟨h0, splitE_good gt, ?_, hnm, g, pathT_small gt, ?_⟩
      · rw [splitN_good gt, ← List.take_succ_eq_append_getElem hm, List.take_of_length_le (by omega)]
      · have := nameL_len hnm
        rw [list_sz] at this; exact this.2
  · rw [parentX_bad h0] at h
    simp only [Prod.mk.injEq] at h
    exact absurd h.2.2 h0

theorem parent_unders {p d n : ByteArray} (h : parentX p = (d, n, 0)) : underB d p = true ∧ underB p p = true ∧ underB p d = false ∧ nameB n = true ∧ underB ⟨#[47]⟩ p = true ∧ d.size ≤ 120 ∧ n.size ≤ 20 := by
  obtain ⟨h1, h2, h3, h4, h5, h6, h7⟩ := parent_ok h
  refine ⟨underB_iff.2 ⟨h2, h1, by rw [h3]; exact List.prefix_append _ _⟩, underB_iff.2 ⟨h1, h1, List.prefix_refl _⟩, ?_, h4, underB_iff.2 ⟨exR0.2, h1, by rw [exR0.1]; exact List.nil_prefix⟩, h6, h7⟩
  rw [Bool.eq_false_iff]
  intro e
  obtain ⟨_, _, k⟩ := underB_iff.1 e
  have := k.length_le
  rw [h3, List.length_append, List.length_cons] at this
  omega

theorem parent_join {p d n : ByteArray} (h : parentX p = (d, n, 0)) : joinX (splitN d ++ [n]) = (p, 0) := by
  obtain ⟨h1, h2, h3, h4, h5, h6, h7⟩ := parent_ok h
  rw [← h3, joinX_good h5, ← splitX_ok h1]

theorem more_join {p name q : ByteArray} (h : splitE p = 0) (hj : joinX (splitN p ++ [name]) = (q, 0)) : nameB name = true ∧ underB p q = true ∧ underB q p = false ∧ name.size < q.size ∧ q.size ≤ 120 := by
  obtain ⟨g, rfl⟩ := joinX_ok hj
  have hN := splitN_good g
  have hE := splitE_good g
  refine ⟨g.names name (by simp), underB_iff.2 ⟨h, hE, by rw [hN]; exact List.prefix_append _ _⟩, ?_, ?_, pathT_small g⟩
  · rw [Bool.eq_false_iff]
    intro e
    obtain ⟨_, _, k⟩ := underB_iff.1 e
    have := k.length_le
    rw [hN, List.length_append, List.length_cons] at this
    omega
  · rw [pathT_size, if_neg (by simp), pathL_app, List.length_append, pathL_cons, List.length_cons, List.length_append, list_sz]
    omega

theorem more_bad {p name q : ByteArray} {E : Int} (h : splitE p = 0) (hj : joinX (splitN p ++ [name]) = (q, E)) (hE : E ≠ 0) : (nameB name = false ∧ E = 1) ∨ (nameB name = true ∧ E = 4) := by
  have hA : (splitN p).all nameB = true := List.all_eq_true.2 (split_ok h).1.names
  rcases joinX_cases (splitN p ++ [name]) with ⟨g, e⟩ | ⟨_, e, k⟩ | ⟨_, e, k⟩
  · rw [e] at hj; cases hj; exact absurd rfl hE
  · rw [e] at hj; cases hj
    rw [List.all_append, hA] at k
    left
    simpa using k
  · rw [e] at hj; cases hj
    rw [List.all_append, hA] at k
    right
    simpa using k

end Go.Proofs.Ytlfehfajaelmlaa
