/- Part 13 of the proof: PathF7, PathF8, PathLM, PathRT. -/
import Derived.Test.YtigomhilcnnjdaaGreatB09
import Derived.Test.YtigomhilcnnjdaaGreatB10
import Derived.Test.YtigomhilcnnjdaaGreatB12

/- The contracts of path.Parent and path.below. -/
namespace Go.Proofs.YtigomhilcnnjdaaGreat
open Go.RowKit

theorem split_few {p : ByteArray} : (splitN p).length ≤ 6 := by
  by_cases h : splitE p = 0
  · exact (split_ok h).1.few
  · rw [(split_bad h).1]; simp

theorem SplitR.use {base : Nat} {N : List ByteArray} {E : Int} {n : Nat} {e : Ending} {w' : World} (h : SplitR base (N, E) e w') (hn : N.length = n) : ∃ a b cap, e = .returned (.tuple #[.slice a n cap, .int .i64 E]) ∧ Sl w' a b 0 cap N := by
  obtain ⟨v, he, ho⟩ := h.ends
  obtain ⟨a, b, cap, rfl, hS⟩ := own_strs ho (by have := h.few; simp at this ⊢; omega) (fun x hx => by have := h.small x hx; unfold maxLen; omega)
  subst hn
  exact ⟨a, b, cap, he, hS⟩

theorem split_val (p : ByteArray) (N : List ByteArray) (E : Int) (n : Nat) (w : World) (hs : p.size ≤ maxLen) (hX : splitX p = (N, E)) (hn : N.length = n) :
    Calls Tryz.prog 91 #[.string p] w fun e w' => ∃ a b cap, e = .returned (.tuple #[.slice a n cap, .int .i64 E]) ∧ Sl w' a b 0 cap N ∧ Below w.heap.size w w' := by
  refine (split_any p _ w hs hX).mono ?_
  rintro e w1 ⟨h1, h2⟩
  obtain ⟨a, b, cap, h3, h4⟩ := h1.use hn
  exact ⟨a, b, cap, h3, h4, h2⟩

theorem splitX_pair (p : ByteArray) : splitX p = (splitN p, splitE p) := rfl

theorem join_val (a : Option Addr) (b off cap : Nat) (ss : List ByteArray) (n : Nat) (T : ByteArray) (E : Int) (w : World) (hS : Strs w a b off ss) (hcap : n ≤ cap) (hn : ss.length = n) (hX : joinX ss = (T, E)) :
    Calls Tryz.prog 93 #[.slice a n cap] w fun e w' => e = .returned (.tuple #[.string T, .int .i64 E]) ∧ Below w.heap.size w w' := by
  subst hn; exact join_any a b off cap ss (T, E) w hS hcap hX

theorem parentX_bad {p : ByteArray} (h : splitE p ≠ 0) : parentX p = (⟨#[]⟩, ⟨#[]⟩, splitE p) := if_neg h
theorem parentX_root {p : ByteArray} (h : splitE p = 0) (h2 : splitN p = []) : parentX p = (⟨#[]⟩, ⟨#[]⟩, 1) := by
  unfold parentX; rw [if_pos h, h2]; rfl
theorem parentX_last {p : ByteArray} (h : splitE p = 0) {m : Nat} (h2 : (splitN p).length = m + 1) : parentX p = (pathT ((splitN p).take m), (splitN p)[m], 0) := by
  have e : (splitN p).getLast? = some (splitN p)[m] := by
    have e0 : (splitN p).length - 1 = m := by omega
    rw [List.getLast?_eq_getElem?, e0, List.getElem?_eq_getElem (by omega)]
  have e2 : (splitN p).dropLast = (splitN p).take m := by rw [List.dropLast_eq_take, h2, Nat.add_sub_cancel]
  unfold parentX; rw [if_pos h, e, e2]

theorem good_take {ns : List ByteArray} (h : Good ns) (m : Nat) : Good (ns.take m) := by
  have e := List.take_append_drop m ns
  rw [← e] at h
  exact h.ahead

set_option maxRecDepth 100000 in
set_option maxHeartbeats 1000000 in
theorem parent_val (p d n : ByteArray) (E : Int) (w : World) (hs : p.size ≤ maxLen) (hX : parentX p = (d, n, E)) :
    Calls Tryz.prog 77 #[.string p] w fun e w' => e = .returned (.tuple #[.string d, .string n, .int .i64 E]) ∧ Below w.heap.size w w' := by
  by_cases h : splitE p = 0
  · have hX0 : splitX p = (splitN p, 0) := by rw [splitX_pair, h]
    have hf : (splitN p).length ≤ 6 := split_few
    cases hl : (splitN p).length with
    | zero =>
      rw [parentX_root h (List.length_eq_zero_iff.1 hl)] at hX
      cases hX
      have HX : Hid (splitX p = (splitN p, 0)) := hX0
      have HL : Hid ((splitN p).length = 0) := hl
      clear hl hX0 h
      generalize splitN p = N at *
      go_enter Tryz.func77, Tryz.ntmps77
      go_wp2_with fail
      refine (split_val p N 0 0 _ hs HX.out HL.out).mono ?_
      rintro e w1 ⟨a, b, cap, rfl, hS, b1⟩
      go_wp2
      go_ret3
      exact ⟨rfl, b1⟩
    | succ m =>
      rw [parentX_last h hl] at hX
      have hG := good_take (split_ok h).1 m
      have hJ := joinX_good hG
      have HX : Hid (splitX p = (splitN p, 0)) := hX0
      have HL : Hid ((splitN p).length = m + 1) := hl
      have hm : m ≤ 6 := by omega
      simp only [Prod.mk.injEq] at hX
      obtain ⟨hd, hn, rfl⟩ := hX
      rw [hd] at hJ
      have HJ : Hid (joinX ((splitN p).take m) = (d, 0)) := hJ
      have HN : Hid (∀ h : m < (splitN p).length, (splitN p)[m] = n) := fun _ => hn
      clear hl hX0 h hG hJ hd hn hf
      generalize splitN p = N at *
      go_enter Tryz.func77, Tryz.ntmps77
      go_wp2_with fail
      refine (split_val p N 0 (m + 1) _ hs HX.out HL.out).mono ?_
      rintro e w1 ⟨a, b, cap, rfl, hS, b1⟩
      obtain rfl := hS.strs.addr (by have := HL.out; omega)
      have hroom := hS.room
      rw [HL.out] at hroom
      have hlid := hS.lid
      unfold maxLen at hlid
      have HS : Hid (Sl w1 (some ⟨b, 0, none⟩) b 0 cap N) := hS
      clear hS
      go_wp2_with (go_at_call 93; refine (join_val (some ⟨b, 0, none⟩) b 0 cap (N.take m) m d 0 _ (HS.out.take m).strs (by omega) (by rw [List.length_take, HL.out]; omega) HJ.out).mono ?_; rintro e w2 ⟨rfl, b2⟩)
      have hc : w2.cell? ⟨b, m, none⟩ = some (.string n) := by
        have hlt : m < N.length := by rw [HL.out]; omega
        have h1 := (HS.out.strs.below b2).cell m hlt
        rw [Nat.zero_add, HN.out hlt] at h1
        exact h1
      have hbb := bel_trans b1 b2
      clear b1 b2 HS
      have hcd : ∀ q, (w2.drewN q).cell? ⟨b, m, none⟩ = some (.string n) := fun _ => hc
      go_quiet (fail)
      go_wp2
      go_ret3
      exact ⟨rfl, bel_trans hbb (bel_drewN _ _)⟩
  · have hX0 : splitX p = (splitN p, splitE p) := splitX_pair p
    rw [parentX_bad h] at hX
    cases hX
    obtain ⟨hN, -⟩ := split_bad h
    rw [hN] at hX0
    generalize splitE p = E at *
    have HX : Hid (splitX p = ([], E)) := hX0
    clear hX0 hN
    go_enter Tryz.func77, Tryz.ntmps77
    go_wp2_with fail
    refine (split_val p [] E 0 _ hs HX.out rfl).mono ?_
    rintro e w1 ⟨a, b, cap, rfl, hS, b1⟩
    go_wp2
    go_ret3
    exact ⟨rfl, b1⟩

/-- The names of b that stand behind a's. -/
def belowN (a b : ByteArray) : List ByteArray := if underB a b = true then (splitN b).drop (splitN a).length else []

/-- How below ends. -/
structure BelowR (R : List ByteArray) (u : Bool) (n : Nat) (e : Ending) (w' : World) : Prop where
  ends : ∃ x b off cap, e = .returned (.tuple #[.slice x n cap, .bool u]) ∧ Sl w' x b off cap R

theorem sl_nil (w : World) : Sl w none 0 0 0 [] := ⟨⟨fun h => by simp at h, fun j hj => by simp at hj, by simp, by simp⟩, .inl rfl, fun _ => rfl, by simp, by unfold maxLen; omega⟩

theorem BelowR.no {R : List ByteArray} {u : Bool} {n : Nat} {e : Ending} {w' : World} (hR : R = []) (hu : u = false) (hn : R.length = n) (he : e = .returned (.tuple #[.slice none 0 0, .bool false])) : BelowR R u n e w' := by
  subst hR hu hn
  exact ⟨⟨none, 0, 0, 0, he, sl_nil _⟩⟩

theorem below_no {a b : ByteArray} (h : underB a b = false) : belowN a b = [] := by unfold belowN; rw [h]; rfl
theorem below_yes {a b : ByteArray} (h : underB a b = true) : belowN a b = (splitN b).drop (splitN a).length := by unfold belowN; rw [h]; rfl

end Go.Proofs.YtigomhilcnnjdaaGreat

/- The contracts of path.Under and path.Move. -/
namespace Go.Proofs.YtigomhilcnnjdaaGreat
open Go.RowKit

theorem moveX_no {p f t : ByteArray} (h : ¬ (underB f p = true ∧ splitE t = 0)) : moveX p f t = (⟨#[]⟩, 1) := if_neg h
theorem moveX_yes {p f t : ByteArray} (h : underB f p = true) (h2 : splitE t = 0) : moveX p f t = joinX (splitN t ++ belowN f p) := by
  rw [below_yes h]; exact if_pos ⟨h, h2⟩

theorem below_few {a b : ByteArray} : (belowN a b).length ≤ 6 := by
  have h : (splitN b).length ≤ 6 := split_few
  unfold belowN; split
  · rw [List.length_drop]; omega
  · simp

end Go.Proofs.YtigomhilcnnjdaaGreat

/- Plain facts on paths: what is joined is split, under, moved there and back. -/
namespace Go.Proofs.YtigomhilcnnjdaaGreat

theorem pathT_small {ns : List ByteArray} (h : Good ns) : (pathT ns).size ≤ 120 := by
  rw [pathT_size]; split
  · omega
  · exact h.short

theorem joinX_ok {ns : List ByteArray} {q : ByteArray} (h : joinX ns = (q, 0)) : Good ns ∧ q = pathT ns := by
  rcases joinX_cases ns with ⟨g, e⟩ | ⟨_, e, _⟩ | ⟨_, e, _⟩
  · rw [e] at h; cases h; exact ⟨g, rfl⟩
  · rw [e] at h; cases h
  · rw [e] at h; cases h

theorem joinX_empty {ns : List ByteArray} {q : ByteArray} {E : Int} (h : joinX ns = (q, E)) (hE : E ≠ 0) : q = ⟨#[]⟩ := by
  rcases joinX_cases ns with ⟨g, e⟩ | ⟨_, e, _⟩ | ⟨_, e, _⟩
  · rw [e] at h; cases h; exact absurd rfl hE
  · rw [e] at h; cases h; rfl
  · rw [e] at h; cases h; rfl

theorem splitX_ok {p : ByteArray} (h : splitE p = 0) : p = pathT (splitN p) := (split_ok h).2

theorem moveX_empty {p f t q : ByteArray} {E : Int} (h : moveX p f t = (q, E)) (hE : E ≠ 0) : q = ⟨#[]⟩ := by
  unfold moveX at h
  split at h
  · exact joinX_empty h hE
  · cases h; rfl

theorem move_back {p f t q : ByteArray} (h : moveX p f t = (q, 0)) : moveX q t f = (p, 0) ∧ underB t q = true ∧ q.size ≤ 120 := by
  unfold moveX at h
  split at h
  · rename_i hg
    obtain ⟨hu, ht⟩ := hg
    obtain ⟨hf, hp, hpre⟩ := underB_iff.1 hu
    obtain ⟨g, rfl⟩ := joinX_ok h
    obtain ⟨R, hR⟩ := hpre
    have hd : (splitN p).drop (splitN f).length = R := by rw [← hR, List.drop_left]
    rw [hd] at g ⊢
    have hN := splitN_good g
    have hE := splitE_good g
    have hut : underB t (pathT (splitN t ++ R)) = true := underB_iff.2 ⟨ht, hE, by rw [hN]; exact List.prefix_append _ _⟩
    refine ⟨?_, hut, pathT_small g⟩
    rw [moveX, if_pos ⟨hut, hf⟩, hN, List.drop_left, hR, joinX_good (split_ok hp).1, ← splitX_ok hp]
  · cases h

theorem under_trans {a b c : ByteArray} (h : underB a b = true) (k : underB b c = true) : underB a c = true := by
  obtain ⟨h1, h2, h3⟩ := underB_iff.1 h
  obtain ⟨k1, k2, k3⟩ := underB_iff.1 k
  exact underB_iff.2 ⟨h1, k2, h3.trans k3⟩

theorem under_both {a b : ByteArray} (h : underB a b = true) (k : underB b a = true) : a = b := by
  obtain ⟨h1, h2, h3⟩ := underB_iff.1 h
  obtain ⟨k1, k2, k3⟩ := underB_iff.1 k
  have e : splitN a = splitN b := h3.eq_of_length (Nat.le_antisymm h3.length_le k3.length_le)
  rw [splitX_ok h1, splitX_ok h2, e]

theorem parent_bad {p d n : ByteArray} {E : Int} (h : parentX p = (d, n, E)) (hE : E ≠ 0) : splitE p ≠ 0 ∨ (p.toList == [47]) = true := by
  by_cases h0 : splitE p = 0
  · right
    cases hl : (splitN p).length with
    | zero =>
      have e : splitN p = [] := List.length_eq_zero_iff.1 hl
      have hp := splitX_ok h0
      rw [e, pathT_nil] at hp
      rw [hp, Lib.toList_data]; rfl
    | succ m =>
      rw [parentX_last h0 hl] at h
      cases h
      exact absurd rfl hE
  · exact .inl h0

theorem exR0 : splitN ⟨#[47]⟩ = [] ∧ splitE ⟨#[47]⟩ = 0 := by
  have h : splitX ⟨#[47]⟩ = ([], 0) := splitX_good good_nil
  exact ⟨by unfold splitN; rw [h], by unfold splitE; rw [h]⟩

theorem parent_ok {p d n : ByteArray} (h : parentX p = (d, n, 0)) : splitE p = 0 ∧ splitE d = 0 ∧ splitN p = splitN d ++ [n] ∧ nameB n = true ∧ Good (splitN p) ∧ d.size ≤ 120 ∧ n.size ≤ 20 := by
  by_cases h0 : splitE p = 0
  · cases hl : (splitN p).length with
    | zero =>
      rw [parentX_root h0 (List.length_eq_zero_iff.1 hl)] at h
      cases h
    | succ m =>
      rw [parentX_last h0 hl] at h
      have g := (split_ok h0).1
      have gt := good_take g m
      have hm : m < (splitN p).length := by omega
      cases h
      have hnm := g.names _ (List.getElem_mem hm)
      refine ⟨h0, splitE_good gt, ?_, hnm, g, pathT_small gt, ?_⟩
      · rw [splitN_good gt, ← List.take_succ_eq_append_getElem hm, List.take_of_length_le (by omega)]
      · have := nameL_len hnm
        rw [list_sz] at this; exact this.2
  · rw [parentX_bad h0] at h
    simp only [Prod.mk.injEq] at h
    exact absurd h.2.2 h0

theorem parent_unders {p d n : ByteArray} (h : parentX p = (d, n, 0)) : underB d p = true ∧ underB p p = true ∧ underB p d = false ∧ nameB n = true ∧ underB ⟨#[47]⟩ p = true ∧ d.size ≤ 120 ∧ n.size ≤ 20 := by
  obtain ⟨h1, h2, h3, h4, h5, h6, h7⟩ := parent_ok h
  refine ⟨underB_iff.2 ⟨h2, h1, by rw [h3]; exact List.prefix_append _ _⟩, underB_iff.2 ⟨h1, h1, List.prefix_refl _⟩, ?_, h4, underB_iff.2 ⟨exR0.2, h1, by rw [exR0.1]; exact List.nil_prefix⟩, h6, h7⟩
  rw [Bool.eq_false_iff]
  intro e
  obtain ⟨_, _, k⟩ := underB_iff.1 e
  have := k.length_le
  rw [h3, List.length_append, List.length_cons] at this
  omega

theorem parent_join {p d n : ByteArray} (h : parentX p = (d, n, 0)) : joinX (splitN d ++ [n]) = (p, 0) := by
  obtain ⟨h1, h2, h3, h4, h5, h6, h7⟩ := parent_ok h
  rw [← h3, joinX_good h5, ← splitX_ok h1]

theorem more_join {p name q : ByteArray} (h : splitE p = 0) (hj : joinX (splitN p ++ [name]) = (q, 0)) : nameB name = true ∧ underB p q = true ∧ underB q p = false ∧ name.size < q.size ∧ q.size ≤ 120 := by
  obtain ⟨g, rfl⟩ := joinX_ok hj
  have hN := splitN_good g
  have hE := splitE_good g
  refine ⟨g.names name (by simp), underB_iff.2 ⟨h, hE, by rw [hN]; exact List.prefix_append _ _⟩, ?_, ?_, pathT_small g⟩
  · rw [Bool.eq_false_iff]
    intro e
    obtain ⟨_, _, k⟩ := underB_iff.1 e
    have := k.length_le
    rw [hN, List.length_append, List.length_cons] at this
    omega
  · rw [pathT_size, if_neg (by simp), pathL_app, List.length_append, pathL_cons, List.length_cons, List.length_append, list_sz]
    omega

theorem more_bad {p name q : ByteArray} {E : Int} (h : splitE p = 0) (hj : joinX (splitN p ++ [name]) = (q, E)) (hE : E ≠ 0) : (nameB name = false ∧ E = 1) ∨ (nameB name = true ∧ E = 4) := by
  have hA : (splitN p).all nameB = true := List.all_eq_true.2 (split_ok h).1.names
  rcases joinX_cases (splitN p ++ [name]) with ⟨g, e⟩ | ⟨_, e, k⟩ | ⟨_, e, k⟩
  · rw [e] at hj; cases hj; exact absurd rfl hE
  · rw [e] at hj; cases hj
    rw [List.all_append, hA] at k
    left
    simpa using k
  · rw [e] at hj; cases hj
    rw [List.all_append, hA] at k
    right
    simpa using k

end Go.Proofs.YtigomhilcnnjdaaGreat

/- The contracts of tabulariumref06.Parent, Under and Move. -/
namespace Go.Proofs.YtigomhilcnnjdaaGreat
open Go.RowKit

theorem refSplit_val (p : ByteArray) (N : List ByteArray) (E : Int) (n : Nat) (w : World) (hs : p.size ≤ maxLen) (hX : splitX p = (N, E)) (hn : N.length = n) :
    Calls Tryz.prog 98 #[.string p] w fun e w' => ∃ a b cap, e = .returned (.tuple #[.slice a n cap, .int .i64 E]) ∧ Sl w' a b 0 cap N ∧ Below w.heap.size w w' := by
  refine (refSplit_any p _ w hs hX).mono ?_
  rintro e w1 ⟨h1, h2⟩
  obtain ⟨a, b, cap, h3, h4⟩ := h1.use hn
  exact ⟨a, b, cap, h3, h4, h2⟩

theorem refJoin_val (a : Option Addr) (b off cap : Nat) (ss : List ByteArray) (n : Nat) (T : ByteArray) (E : Int) (w : World) (hS : Strs w a b off ss) (hn : ss.length = n) (hX : joinX ss = (T, E)) :
    Calls Tryz.prog 99 #[.slice a n cap] w fun e w' => e = .returned (.tuple #[.string T, .int .i64 E]) ∧ Below w.heap.size w w' := by
  subst hn; exact refJoin_any a b off cap ss (T, E) w hS hX

set_option maxRecDepth 100000 in
set_option maxHeartbeats 1000000 in
theorem refParent_val (p d n : ByteArray) (E : Int) (w : World) (hs : p.size ≤ maxLen) (hX : parentX p = (d, n, E)) :
    Calls Tryz.prog 84 #[.string p] w fun e w' => e = .returned (.tuple #[.string d, .string n, .int .i64 E]) ∧ Below w.heap.size w w' := by
  by_cases h : splitE p = 0
  · have hX0 : splitX p = (splitN p, 0) := by rw [splitX_pair, h]
    have hf : (splitN p).length ≤ 6 := split_few
    cases hl : (splitN p).length with
    | zero =>
      rw [parentX_root h (List.length_eq_zero_iff.1 hl)] at hX
      cases hX
      have HX : Hid (splitX p = (splitN p, 0)) := hX0
      have HL : Hid ((splitN p).length = 0) := hl
      clear hl hX0 h
      generalize splitN p = N at *
      go_enter Tryz.func84, Tryz.ntmps84
      go_wp2_with fail
      refine (refSplit_val p N 0 0 _ hs HX.out HL.out).mono ?_
      rintro e w1 ⟨a, b, cap, rfl, hS, b1⟩
      go_wp2
      go_ret3
      exact ⟨rfl, b1⟩
    | succ m =>
      rw [parentX_last h hl] at hX
      have hG := good_take (split_ok h).1 m
      have hJ := joinX_good hG
      have HX : Hid (splitX p = (splitN p, 0)) := hX0
      have HL : Hid ((splitN p).length = m + 1) := hl
      have hm : m ≤ 6 := by omega
      simp only [Prod.mk.injEq] at hX
      obtain ⟨hd, hn, rfl⟩ := hX
      rw [hd] at hJ
      have HJ : Hid (joinX ((splitN p).take m) = (d, 0)) := hJ
      have HN : Hid (∀ h : m < (splitN p).length, (splitN p)[m] = n) := fun _ => hn
      clear hl hX0 h hG hJ hd hn hf
      generalize splitN p = N at *
      go_enter Tryz.func84, Tryz.ntmps84
      go_wp2_with fail
      refine (refSplit_val p N 0 (m + 1) _ hs HX.out HL.out).mono ?_
      rintro e w1 ⟨a, b, cap, rfl, hS, b1⟩
      obtain rfl := hS.strs.addr (by have := HL.out; omega)
      have hroom := hS.room
      rw [HL.out] at hroom
      have hlid := hS.lid
      unfold maxLen at hlid
      have HS : Hid (Sl w1 (some ⟨b, 0, none⟩) b 0 cap N) := hS
      clear hS
      go_wp2_with (go_at_call 99; refine (refJoin_val (some ⟨b, 0, none⟩) b 0 cap (N.take m) m d 0 _ (HS.out.take m).strs (by rw [List.length_take, HL.out]; omega) HJ.out).mono ?_; rintro e w2 ⟨rfl, b2⟩)
      have hc : w2.cell? ⟨b, m, none⟩ = some (.string n) := by
        have hlt : m < N.length := by rw [HL.out]; omega
        have h1 := (HS.out.strs.below b2).cell m hlt
        rw [Nat.zero_add, HN.out hlt] at h1
        exact h1
      have hbb := bel_trans b1 b2
      clear b1 b2 HS
      have hcd : ∀ q, (w2.drewN q).cell? ⟨b, m, none⟩ = some (.string n) := fun _ => hc
      go_quiet (fail)
      go_wp2
      go_ret3
      exact ⟨rfl, bel_trans hbb (bel_drewN _ _)⟩
  · have hX0 : splitX p = (splitN p, splitE p) := splitX_pair p
    rw [parentX_bad h] at hX
    cases hX
    obtain ⟨hN, -⟩ := split_bad h
    rw [hN] at hX0
    generalize splitE p = E at *
    have HX : Hid (splitX p = ([], E)) := hX0
    clear hX0 hN
    go_enter Tryz.func84, Tryz.ntmps84
    go_wp2_with fail
    refine (refSplit_val p [] E 0 _ hs HX.out rfl).mono ?_
    rintro e w1 ⟨a, b, cap, rfl, hS, b1⟩
    go_wp2
    go_ret3
    exact ⟨rfl, b1⟩

set_option maxRecDepth 100000 in
set_option maxHeartbeats 1000000 in
theorem refUnder_val (a b : ByteArray) (u : Bool) (w : World) (hs : a.size ≤ maxLen) (hs2 : b.size ≤ maxLen) (hu : underB a b = u) :
    Calls Tryz.prog 100 #[.string a, .string b] w fun e w' => e = .returned (.bool u) ∧ Below w.heap.size w w' := by
  have HSa : Hid (a.size ≤ maxLen) := hs
  have HSb : Hid (b.size ≤ maxLen) := hs2
  have hXa : Hid (splitX a = (splitN a, splitE a)) := splitX_pair a
  have hXb : Hid (splitX b = (splitN b, splitE b)) := splitX_pair b
  have HU : Hid (u = (decide (splitE a = 0) && decide (splitE b = 0) && decide ((splitN b).take (splitN a).length = splitN a))) := hu.symm
  have hfa : (splitN a).length ≤ 6 := split_few
  have hfb : (splitN b).length ≤ 6 := split_few
  clear hs hs2 hu
  generalize splitN a = A at *
  generalize splitN b = B at *
  generalize splitE a = Ea at *
  generalize splitE b = Eb at *
  obtain ⟨la, hla⟩ : ∃ la, A.length = la := ⟨_, rfl⟩
  have HLA : Hid (A.length = la) := hla
  obtain ⟨lb, hlb⟩ : ∃ lb, B.length = lb := ⟨_, rfl⟩
  have HLB : Hid (B.length = lb) := hlb
  rw [hla] at hfa
  rw [hlb] at hfb
  clear hla hlb
  go_enter Tryz.func100, Tryz.ntmps100
  go_wp2_with fail
  refine (refSplit_val a A Ea la _ HSa.out hXa.out HLA.out).mono ?_
  rintro e w1 ⟨a1, b1, cap1, rfl, hS1, c1⟩
  go_wp2_with fail
  refine (refSplit_val b B Eb lb _ HSb.out hXb.out HLB.out).mono ?_
  rintro e w2 ⟨a2, b2, cap2, rfl, hS2, c2⟩
  have cc := bel_trans c1 c2
  have hS3 := hS1.below c2
  have HS2 : Hid (Sl w2 a2 b2 0 cap2 B) := hS2
  have HS1 : Hid (Sl w2 a1 b1 0 cap1 A) := hS3
  clear hS1 hS2 hS3 c1 c2
  by_cases hg : Ea = 0 ∧ Eb = 0 ∧ la ≤ lb
  · obtain ⟨rfl, rfl, hle⟩ := hg
    have HU2 : Hid (u = decide (B.take la = A)) := by have h := HU.out; rw [HLA.out] at h; exact h
    clear HU
    go_wp2
    go_loopw [9] (fun c wr => ∃ k q : Nat, k ≤ la ∧ c = .int .i64 k ∧ A.take k = B.take k ∧ wr = w2.drewN q) (fun c _ => la - (intOf c).toNat)
    case atStart => exact ⟨0, 0, by omega, rfl, by simp, rfl⟩
    case round =>
      obtain ⟨k, q, hk, rfl, hE, rfl⟩ := hrel
      have E : Hid (A.take k = B.take k) := hE
      clear hE
      by_cases hlt : k < la
      · have hks : k < A.length := by rw [HLA.out]; exact hlt
        have hkt : k < B.length := by rw [HLB.out]; omega
        have ha := HS1.out.strs.addr (by omega)
        have ha' := HS2.out.strs.addr (by omega)
        subst ha
        subst ha'
        have hc1 : ∀ m, (w2.drewN m).cell? ⟨b1, k, none⟩ = some (.string A[k]) := fun _ => by have h := HS1.out.strs.cell k hks; rw [Nat.zero_add] at h; exact h
        have hc2 : ∀ m, (w2.drewN m).cell? ⟨b2, k, none⟩ = some (.string B[k]) := fun _ => by have h := HS2.out.strs.cell k hkt; rw [Nat.zero_add] at h; exact h
        have hlt' : (k : Int) < (la : Int) := by omega
        have hlt2 : (k : Int) < (lb : Int) := by omega
        by_cases he : A[k] = B[k]
        · have E2 : Hid (A.take (k + 1) = B.take (k + 1)) := take_eq_step hks hkt E.out he
          clear E
          go_wp2
          refine wp_region_quiet_lit (by kernel_rfl) (by kernel_rfl) ?_
          repeat (first | go_big_quiet_step (fail) | quiet_step (fail))
          refine wpQuiet_nil ?_
          rintro _ ⟨nq, rfl⟩
          go_wp2
          go_roundw
          case rel => exact ⟨k + 1, q + nq, by omega, by go_num, E2.out, by simp [World.drewN]⟩
          case measure => simp [intOf]; omega
        · have HF : Hid (u = false) := by
            show _ = _
            rw [HU2.out, decide_eq_false_iff_not]
            intro e
            have h1 : A[k]? = B[k]? := by
              conv => lhs; rw [← e]
              rw [List.getElem?_take, if_pos hlt]
            rw [List.getElem?_eq_getElem hks, List.getElem?_eq_getElem hkt] at h1
            exact he (Option.some.inj h1)
          have hne : (A[k].toList == B[k].toList) = false := by
            rw [beq_eq_false_iff_ne, Lib.toList_data, Lib.toList_data]
            exact fun e => he (ba_inj e)
          clear E
          go_wp2
          refine wp_region_quiet_lit (by kernel_rfl) (by kernel_rfl) ?_
          repeat (first | go_big_quiet_step (fail) | quiet_step (fail))
          refine wpQuiet_nil ?_
          rintro _ ⟨nq, rfl⟩
          go_wp2
          go_ret
          refine ⟨by rw [HF.out]; rfl, ?_⟩
          have := bel_trans cc (bel_trans (bel_drewN w2 q) (bel_drewN (w2.drewN q) nq))
          simpa using this
      · have HT2 : Hid (u = true) := by
          show _ = _
          rw [HU2.out, decide_eq_true_eq]
          have h := E.out
          have hkl : k = la := by omega
          rw [hkl, List.take_of_length_le (by have := HLA.out; omega)] at h
          exact h.symm
        go_wp2
        go_ret
        exact ⟨by rw [HT2.out]; rfl, bel_trans cc (bel_drewN _ _)⟩
  · have HF : Hid (u = false) := by
      show _ = _
      rw [HU.out, Bool.eq_false_iff]
      intro e
      simp only [Bool.and_eq_true, decide_eq_true_eq] at e
      refine hg ⟨e.1.1, e.1.2, ?_⟩
      have h := congrArg List.length e.2
      rw [List.length_take, HLA.out, HLB.out] at h
      omega
    have HG : Hid _ := hg
    clear hg HU
    go_wp2
    all_goals (first
      | (go_ret; exact ⟨by rw [HF.out]; rfl, cc⟩)
      | exact (HG.out ⟨by assumption, by assumption, by omega⟩).elim)

end Go.Proofs.YtigomhilcnnjdaaGreat
