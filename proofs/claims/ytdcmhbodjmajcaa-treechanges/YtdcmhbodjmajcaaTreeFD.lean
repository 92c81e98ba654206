/- The contract of tree.refuseMove. -/
import Derived.Test.YtdcmhbodjmajcaaTreeFC
import Derived.Test.YtdcmhbodjmajcaaTreeT1
namespace Go.Proofs.Ytdcmhbodjmajcaa
open Go.RowKit

/-- What refuseMove tells: all but that a path would get too long. -/
inductive RefM (xs : NS) (f t : ByteArray) : Int → Prop
  | arg : ¬ (Right xs ∧ pathB f = true ∧ f ≠ rootP ∧ pathB t = true ∧ t ≠ rootP ∧ underB f t = false) → RefM xs f t 1
  | none : Right xs → pathB f = true → f ≠ rootP → pathB t = true → t ≠ rootP → underB f t = false → at? xs f = none → RefM xs f t 5
  | par (e : Int) : Right xs → pathB f = true → f ≠ rootP → pathB t = true → t ≠ rootP → underB f t = false → at? xs f ≠ none → dirE xs (parD t) = e → e ≠ 0 → RefM xs f t e
  | exist : Right xs → pathB f = true → f ≠ rootP → pathB t = true → t ≠ rootP → underB f t = false → at? xs f ≠ none → dirE xs (parD t) = 0 → at? xs t ≠ none → (isDir xs f || isDir xs t) = true → RefM xs f t 6
  | ok : Right xs → pathB f = true → f ≠ rootP → pathB t = true → t ≠ rootP → underB f t = false → at? xs f ≠ none → dirE xs (parD t) = 0 → (at? xs t ≠ none → (isDir xs f || isDir xs t) = false) → RefM xs f t 0

theorem isDir_at {xs : NS} {p : ByteArray} {i : Nat} (h : at? xs p = some i) (hi : i < xs.length) : isDir xs p = xs[i].dir := by
  unfold isDir dirE
  rw [h]
  simp only [List.getElem?_eq_getElem hi, Option.map_some, Option.getD_some]
  cases xs[i].dir <;> simp

theorem NL.dir {w : World} {a : Option Addr} {n : Nat} {xs : NS} (h : NL w a n xs) {b off : Nat} (ha : a = some ⟨b, off, none⟩) {i : Nat} (hi : i < xs.length) : w.cell? ⟨b, off + i * 5 + 1, none⟩ = some (.bool xs[i].dir) := by
  obtain ⟨b', off', ps, k1, k2, k3⟩ := h.ex
  have hip : i < ps.length := by rw [← List.length_map (f := (·.1)), k1]; exact hi
  have e := k3.addr (by omega)
  rw [ha] at e
  cases e
  have e1 := (k3.at hip).2.1
  rw [e1]
  subst k1
  simp

theorem NL.addr {w : World} {a : Option Addr} {n : Nat} {xs : NS} (h : NL w a n xs) (hp : 0 < n) : ∃ b off, a = some ⟨b, off, none⟩ := by
  obtain ⟨b, off, ps, k1, k2, k3⟩ := h.ex
  exact ⟨b, off, k3.addr (by rw [← List.length_map (f := (·.1)), k1, k2]; exact hp)⟩

set_option maxRecDepth 100000 in
set_option maxHeartbeats 1000000 in
theorem refuseMove_val {a : Option Addr} {n c : Nat} {xs : NS} {w : World} (h : NL w a n xs) (f t : ByteArray) (hf : f.size ≤ maxLen) (ht : t.size ≤ maxLen) (E : Int) (hE : RefM xs f t E) :
    Calls Try.prog 57 #[.slice a n c, .string f, .string t] w fun e w' => e = .returned (.int .i64 E) ∧ Below w.heap.size w w' := by
  have CR : Hid (∀ W u, Below w.heap.size w W → (u = true ↔ Right xs) → Calls Try.prog 15 #[.slice a n c] W fun e w' => e = .returned (.bool u) ∧ Below W.heap.size W w') := fun W u hb hu => right_val (h.below hb) u hu
  have CF : Hid (∀ W p I, Below w.heap.size w W → findI xs p = I → Calls Try.prog 17 #[.slice a n c, .string p] W fun e w' => e = .returned (.int .i64 I) ∧ Below W.heap.size W w') := fun W p I hb hI => find_val (h.below hb) p I hI
  have CP : Hid (∀ W F, Below w.heap.size w W → dirE xs (parD t) = F → Calls Try.prog 42 #[.slice a n c, .string t] W fun e w' => e = .returned (.int .i64 F) ∧ Below W.heap.size W w') := fun W F hb hF => refuseParent_val (h.below hb) t ht F hF
  have HLEN : Hid (xs.length = n) := by obtain ⟨_, _, _, _, k2, _⟩ := h.ex; exact k2
  have hlid := h.lid
  unfold maxLen at hlid
  have HF : Hid (f.size ≤ maxLen) := hf
  have HT : Hid (t.size ≤ maxLen) := ht
  have HNL : Hid (NL w a n xs) := h
  have ef := root_eq f
  have et := root_eq t
  clear h hf ht
  cases hE with
  | arg hn =>
    by_cases h1 : Right xs
    · have H1 : Hid (true = true ↔ Right xs) := ⟨fun _ => h1, fun _ => rfl⟩
      cases h2 : pathB f with
      | false =>
        have H2 : Hid _ := h2
        clear h1 h2 hn ef et
        go_enter Try.func57, Try.ntmps57
        go_wp2_with (first
          | (go_at_call 15; refine (CR.out _ true (Below.refl _ _) H1.out).mono ?_; rintro e w1 ⟨rfl, c1⟩; have cc1 : Hid _ := c1; clear c1)
          | (go_at_call_of 32 (Value.string f); refine (isPath_val f false _ HF.out H2.out).mono ?_; rintro e w2 ⟨rfl, c2⟩; have cc2 : Hid _ := bel_tr cc1.out c2; clear c2))
        go_ret
        exact ⟨rfl, cc2.out⟩
      | true =>
        have H2 : Hid _ := h2
        by_cases h3 : f = rootP
        · rw [decide_eq_true h3] at ef
          clear h1 h2 h3 hn et
          go_enter Try.func57, Try.ntmps57
          go_wp2_with (first
            | (go_at_call 15; refine (CR.out _ true (Below.refl _ _) H1.out).mono ?_; rintro e w1 ⟨rfl, c1⟩; have cc1 : Hid _ := c1; clear c1)
            | (go_at_call_of 32 (Value.string f); refine (isPath_val f true _ HF.out H2.out).mono ?_; rintro e w2 ⟨rfl, c2⟩; have cc2 : Hid _ := bel_tr cc1.out c2; clear c2))
          go_ret
          exact ⟨rfl, cc2.out⟩
        · rw [decide_eq_false h3] at ef
          cases h4 : pathB t with
          | false =>
            have H4 : Hid _ := h4
            clear h1 h2 h3 h4 hn et
            go_enter Try.func57, Try.ntmps57
            go_wp2_with (first
              | (go_at_call 15; refine (CR.out _ true (Below.refl _ _) H1.out).mono ?_; rintro e w1 ⟨rfl, c1⟩; have cc1 : Hid _ := c1; clear c1)
              | (go_at_call_of 32 (Value.string f); refine (isPath_val f true _ HF.out H2.out).mono ?_; rintro e w2 ⟨rfl, c2⟩; have cc2 : Hid _ := bel_tr cc1.out c2; clear c2)
              | (go_at_call_of 32 (Value.string t); refine (isPath_val t false _ HT.out H4.out).mono ?_; rintro e w3 ⟨rfl, c3⟩; have cc3 : Hid _ := bel_tr cc2.out c3; clear c3))
            go_ret
            exact ⟨rfl, cc3.out⟩
          | true =>
            have H4 : Hid _ := h4
            by_cases h5 : t = rootP
            · rw [decide_eq_true h5] at et
              clear h1 h2 h3 h4 h5 hn
              go_enter Try.func57, Try.ntmps57
              go_wp2_with (first
                | (go_at_call 15; refine (CR.out _ true (Below.refl _ _) H1.out).mono ?_; rintro e w1 ⟨rfl, c1⟩; have cc1 : Hid _ := c1; clear c1)
                | (go_at_call_of 32 (Value.string f); refine (isPath_val f true _ HF.out H2.out).mono ?_; rintro e w2 ⟨rfl, c2⟩; have cc2 : Hid _ := bel_tr cc1.out c2; clear c2)
                | (go_at_call_of 32 (Value.string t); refine (isPath_val t true _ HT.out H4.out).mono ?_; rintro e w3 ⟨rfl, c3⟩; have cc3 : Hid _ := bel_tr cc2.out c3; clear c3))
              go_ret
              exact ⟨rfl, cc3.out⟩
            · rw [decide_eq_false h5] at et
              have h6 : underB f t = true := by
                cases h6 : underB f t with
                | true => rfl
                | false => exact absurd ⟨h1, h2, h3, h4, h5, h6⟩ hn
              have H6 : Hid _ := h6
              clear h1 h2 h3 h4 h5 h6 hn
              go_enter Try.func57, Try.ntmps57
              go_wp2_with (first
                | (go_at_call 15; refine (CR.out _ true (Below.refl _ _) H1.out).mono ?_; rintro e w1 ⟨rfl, c1⟩; have cc1 : Hid _ := c1; clear c1)
                | (go_at_call_of 32 (Value.string f); refine (isPath_val f true _ HF.out H2.out).mono ?_; rintro e w2 ⟨rfl, c2⟩; have cc2 : Hid _ := bel_tr cc1.out c2; clear c2)
                | (go_at_call_of 32 (Value.string t); refine (isPath_val t true _ HT.out H4.out).mono ?_; rintro e w3 ⟨rfl, c3⟩; have cc3 : Hid _ := bel_tr cc2.out c3; clear c3)
                | (go_at_call 55; refine (under_val f t true _ HF.out HT.out H6.out).mono ?_; rintro e w4 ⟨rfl, c4⟩; have cc4 : Hid _ := bel_tr cc3.out c4; clear c4))
              go_ret
              exact ⟨rfl, cc4.out⟩
    · have H1 : Hid (false = true ↔ Right xs) := ⟨fun e => (by cases e), fun e => absurd e h1⟩
      clear h1 hn ef et
      go_enter Try.func57, Try.ntmps57
      go_wp2_with (first
        | (go_at_call 15; refine (CR.out _ false (Below.refl _ _) H1.out).mono ?_; rintro e w1 ⟨rfl, c1⟩; have cc1 : Hid _ := c1; clear c1))
      go_ret
      exact ⟨rfl, cc1.out⟩
  | none h1 h2 h3 h4 h5 h6 h7 =>
    have H1 : Hid (true = true ↔ Right xs) := ⟨fun _ => h1, fun _ => rfl⟩
    have H2 : Hid _ := h2
    have H4 : Hid _ := h4
    have H6 : Hid _ := h6
    rw [decide_eq_false h3] at ef
    rw [decide_eq_false h5] at et
    have H7 : Hid (findI xs f = -1) := find_neg h7
    clear h1 h2 h3 h4 h5 h6 h7
    go_enter Try.func57, Try.ntmps57
    go_wp2_with (first
      | (go_at_call 15; refine (CR.out _ true (Below.refl _ _) H1.out).mono ?_; rintro e w1 ⟨rfl, c1⟩; have cc1 : Hid _ := c1; clear c1)
      | (go_at_call_of 32 (Value.string f); refine (isPath_val f true _ HF.out H2.out).mono ?_; rintro e w2 ⟨rfl, c2⟩; have cc2 : Hid _ := bel_tr cc1.out c2; clear c2)
      | (go_at_call_of 32 (Value.string t); refine (isPath_val t true _ HT.out H4.out).mono ?_; rintro e w3 ⟨rfl, c3⟩; have cc3 : Hid _ := bel_tr cc2.out c3; clear c3)
      | (go_at_call 55; refine (under_val f t false _ HF.out HT.out H6.out).mono ?_; rintro e w4 ⟨rfl, c4⟩; have cc4 : Hid _ := bel_tr cc3.out c4; clear c4)
      | (go_at_call_of 17 (Value.string f); refine (CF.out _ f _ cc4.out H7.out).mono ?_; rintro e w5 ⟨rfl, c5⟩; have cc5 : Hid _ := bel_tr cc4.out c5; clear c5))
    go_ret
    exact ⟨rfl, cc5.out⟩
  | par e h1 h2 h3 h4 h5 h6 h7 h8 h9 =>
    have H1 : Hid (true = true ↔ Right xs) := ⟨fun _ => h1, fun _ => rfl⟩
    have H2 : Hid _ := h2
    have H4 : Hid _ := h4
    have H6 : Hid _ := h6
    rw [decide_eq_false h3] at ef
    rw [decide_eq_false h5] at et
    obtain ⟨i, h7a, h7b⟩ := find_pos h7
    have H7 : Hid (findI xs f = (i : Int)) := h7a
    have H8 : Hid (dirE xs (parD t) = E) := h8
    have h9b : (E != 0) = true := by simpa using h9
    clear h1 h2 h3 h4 h5 h6 h7 h7a h7b h8 h9
    go_enter Try.func57, Try.ntmps57
    go_wp2_with (first
      | (go_at_call 15; refine (CR.out _ true (Below.refl _ _) H1.out).mono ?_; rintro e w1 ⟨rfl, c1⟩; have cc1 : Hid _ := c1; clear c1)
      | (go_at_call_of 32 (Value.string f); refine (isPath_val f true _ HF.out H2.out).mono ?_; rintro e w2 ⟨rfl, c2⟩; have cc2 : Hid _ := bel_tr cc1.out c2; clear c2)
      | (go_at_call_of 32 (Value.string t); refine (isPath_val t true _ HT.out H4.out).mono ?_; rintro e w3 ⟨rfl, c3⟩; have cc3 : Hid _ := bel_tr cc2.out c3; clear c3)
      | (go_at_call 55; refine (under_val f t false _ HF.out HT.out H6.out).mono ?_; rintro e w4 ⟨rfl, c4⟩; have cc4 : Hid _ := bel_tr cc3.out c4; clear c4)
      | (go_at_call_of 17 (Value.string f); refine (CF.out _ f _ cc4.out H7.out).mono ?_; rintro e w5 ⟨rfl, c5⟩; have cc5 : Hid _ := bel_tr cc4.out c5; clear c5)
      | (go_at_call 42; refine (CP.out _ _ cc5.out H8.out).mono ?_; rintro e w6 ⟨rfl, c6⟩; have cc6 : Hid _ := bel_tr cc5.out c6; clear c6))
    go_ret
    exact ⟨rfl, cc6.out⟩
  | exist h1 h2 h3 h4 h5 h6 h7 h8 h9 h10 =>
    have H1 : Hid (true = true ↔ Right xs) := ⟨fun _ => h1, fun _ => rfl⟩
    have H2 : Hid _ := h2
    have H4 : Hid _ := h4
    have H6 : Hid _ := h6
    rw [decide_eq_false h3] at ef
    rw [decide_eq_false h5] at et
    obtain ⟨i, h7a⟩ : ∃ i, at? xs f = some i := by
      cases e : at? xs f with
      | none => exact absurd e h7
      | some i => exact ⟨i, rfl⟩
    have hi := (at_some h7a).1
    have H7 : Hid (findI xs f = (i : Int)) := by show _ = _; unfold findI; rw [h7a]
    have H8 : Hid (dirE xs (parD t) = 0) := h8
    have hin : i < n := by rw [← HLEN.out]; exact hi
    obtain ⟨b, off, hab⟩ := HNL.out.addr (by omega)
    have D1 : Hid (w.cell? ⟨b, off + i * 5 + 1, none⟩ = some (.bool xs[i].dir)) := HNL.out.dir hab hi
    have q1 := isDir_at h7a hi
    obtain ⟨k, h9a⟩ : ∃ k, at? xs t = some k := by
      cases e : at? xs t with
      | none => exact absurd e h9
      | some k => exact ⟨k, rfl⟩
    have hk := (at_some h9a).1
    have H9 : Hid (findI xs t = (k : Int)) := by show _ = _; unfold findI; rw [h9a]
    have hkn : k < n := by rw [← HLEN.out]; exact hk
    have D2 : Hid (w.cell? ⟨b, off + k * 5 + 1, none⟩ = some (.bool xs[k].dir)) := HNL.out.dir hab hk
    rw [q1, isDir_at h9a hk] at h10
    clear h1 h2 h3 h4 h5 h6 h7 h7a h8 h9 h9a q1
    generalize xs[i].dir = d1 at *
    generalize xs[k].dir = d2 at *
    subst hab
    cases d1 with
    | true =>
      go_enter Try.func57, Try.ntmps57
      go_wp2_with (first
        | (go_at_call 15; refine (CR.out _ true (Below.refl _ _) H1.out).mono ?_; rintro e w1 ⟨rfl, c1⟩; have cc1 : Hid _ := c1; clear c1)
        | (go_at_call_of 32 (Value.string f); refine (isPath_val f true _ HF.out H2.out).mono ?_; rintro e w2 ⟨rfl, c2⟩; have cc2 : Hid _ := bel_tr cc1.out c2; clear c2)
        | (go_at_call_of 32 (Value.string t); refine (isPath_val t true _ HT.out H4.out).mono ?_; rintro e w3 ⟨rfl, c3⟩; have cc3 : Hid _ := bel_tr cc2.out c3; clear c3)
        | (go_at_call 55; refine (under_val f t false _ HF.out HT.out H6.out).mono ?_; rintro e w4 ⟨rfl, c4⟩; have cc4 : Hid _ := bel_tr cc3.out c4; clear c4)
        | (go_at_call_of 17 (Value.string f); refine (CF.out _ f _ cc4.out H7.out).mono ?_; rintro e w5 ⟨rfl, c5⟩; have cc5 : Hid _ := bel_tr cc4.out c5; clear c5)
        | (go_at_call 42; refine (CP.out _ _ cc5.out H8.out).mono ?_; rintro e w6 ⟨rfl, c6⟩; have cc6 : Hid _ := bel_tr cc5.out c6; clear c6)
        | (go_at_call_of 17 (Value.string t); refine (CF.out _ t _ cc6.out H9.out).mono ?_; rintro e w7 ⟨rfl, c7⟩; have cc7 : Hid _ := bel_tr cc6.out c7; have y1 := bel_cell cc7.out D1.out; have y2 := bel_cell cc7.out D2.out; clear c7))
      go_ret
      exact ⟨rfl, cc7.out⟩
    | false =>
      have hd2 : d2 = true := by simpa using h10
      subst hd2
      go_enter Try.func57, Try.ntmps57
      go_wp2_with (first
        | (go_at_call 15; refine (CR.out _ true (Below.refl _ _) H1.out).mono ?_; rintro e w1 ⟨rfl, c1⟩; have cc1 : Hid _ := c1; clear c1)
        | (go_at_call_of 32 (Value.string f); refine (isPath_val f true _ HF.out H2.out).mono ?_; rintro e w2 ⟨rfl, c2⟩; have cc2 : Hid _ := bel_tr cc1.out c2; clear c2)
        | (go_at_call_of 32 (Value.string t); refine (isPath_val t true _ HT.out H4.out).mono ?_; rintro e w3 ⟨rfl, c3⟩; have cc3 : Hid _ := bel_tr cc2.out c3; clear c3)
        | (go_at_call 55; refine (under_val f t false _ HF.out HT.out H6.out).mono ?_; rintro e w4 ⟨rfl, c4⟩; have cc4 : Hid _ := bel_tr cc3.out c4; clear c4)
        | (go_at_call_of 17 (Value.string f); refine (CF.out _ f _ cc4.out H7.out).mono ?_; rintro e w5 ⟨rfl, c5⟩; have cc5 : Hid _ := bel_tr cc4.out c5; clear c5)
        | (go_at_call 42; refine (CP.out _ _ cc5.out H8.out).mono ?_; rintro e w6 ⟨rfl, c6⟩; have cc6 : Hid _ := bel_tr cc5.out c6; clear c6)
        | (go_at_call_of 17 (Value.string t); refine (CF.out _ t _ cc6.out H9.out).mono ?_; rintro e w7 ⟨rfl, c7⟩; have cc7 : Hid _ := bel_tr cc6.out c7; have y1 := bel_cell cc7.out D1.out; have y2 := bel_cell cc7.out D2.out; clear c7))
      go_ret
      exact ⟨rfl, cc7.out⟩
  | ok h1 h2 h3 h4 h5 h6 h7 h8 h9 =>
    have H1 : Hid (true = true ↔ Right xs) := ⟨fun _ => h1, fun _ => rfl⟩
    have H2 : Hid _ := h2
    have H4 : Hid _ := h4
    have H6 : Hid _ := h6
    rw [decide_eq_false h3] at ef
    rw [decide_eq_false h5] at et
    obtain ⟨i, h7a⟩ : ∃ i, at? xs f = some i := by
      cases e : at? xs f with
      | none => exact absurd e h7
      | some i => exact ⟨i, rfl⟩
    have hi := (at_some h7a).1
    have H7 : Hid (findI xs f = (i : Int)) := by show _ = _; unfold findI; rw [h7a]
    have H8 : Hid (dirE xs (parD t) = 0) := h8
    have hin : i < n := by rw [← HLEN.out]; exact hi
    obtain ⟨b, off, hab⟩ := HNL.out.addr (by omega)
    have D1 : Hid (w.cell? ⟨b, off + i * 5 + 1, none⟩ = some (.bool xs[i].dir)) := HNL.out.dir hab hi
    have q1 := isDir_at h7a hi
    cases h9a : at? xs t with
    | none =>
      have H9 : Hid (findI xs t = -1) := find_neg h9a
      clear h1 h2 h3 h4 h5 h6 h7 h7a h8 h9 h9a q1
      generalize xs[i].dir = d1 at *
      subst hab
      go_enter Try.func57, Try.ntmps57
      go_wp2_with (first
        | (go_at_call 15; refine (CR.out _ true (Below.refl _ _) H1.out).mono ?_; rintro e w1 ⟨rfl, c1⟩; have cc1 : Hid _ := c1; clear c1)
        | (go_at_call_of 32 (Value.string f); refine (isPath_val f true _ HF.out H2.out).mono ?_; rintro e w2 ⟨rfl, c2⟩; have cc2 : Hid _ := bel_tr cc1.out c2; clear c2)
        | (go_at_call_of 32 (Value.string t); refine (isPath_val t true _ HT.out H4.out).mono ?_; rintro e w3 ⟨rfl, c3⟩; have cc3 : Hid _ := bel_tr cc2.out c3; clear c3)
        | (go_at_call 55; refine (under_val f t false _ HF.out HT.out H6.out).mono ?_; rintro e w4 ⟨rfl, c4⟩; have cc4 : Hid _ := bel_tr cc3.out c4; clear c4)
        | (go_at_call_of 17 (Value.string f); refine (CF.out _ f _ cc4.out H7.out).mono ?_; rintro e w5 ⟨rfl, c5⟩; have cc5 : Hid _ := bel_tr cc4.out c5; clear c5)
        | (go_at_call 42; refine (CP.out _ _ cc5.out H8.out).mono ?_; rintro e w6 ⟨rfl, c6⟩; have cc6 : Hid _ := bel_tr cc5.out c6; clear c6)
        | (go_at_call_of 17 (Value.string t); refine (CF.out _ t _ cc6.out H9.out).mono ?_; rintro e w7 ⟨rfl, c7⟩; have cc7 : Hid _ := bel_tr cc6.out c7; clear c7))
      go_ret
      exact ⟨rfl, cc7.out⟩
    | some k =>
      have hk := (at_some h9a).1
      have H9 : Hid (findI xs t = (k : Int)) := by show _ = _; unfold findI; rw [h9a]
      have hkn : k < n := by rw [← HLEN.out]; exact hk
      have D2 : Hid (w.cell? ⟨b, off + k * 5 + 1, none⟩ = some (.bool xs[k].dir)) := HNL.out.dir hab hk
      have h10 := h9 (by rw [h9a]; simp)
      rw [q1, isDir_at h9a hk, Bool.or_eq_false_iff] at h10
      obtain ⟨h10a, h10b⟩ := h10
      rw [h10a] at D1
      rw [h10b] at D2
      clear h1 h2 h3 h4 h5 h6 h7 h7a h8 h9 h9a q1 h10a h10b
      subst hab
      go_enter Try.func57, Try.ntmps57
      go_wp2_with (first
        | (go_at_call 15; refine (CR.out _ true (Below.refl _ _) H1.out).mono ?_; rintro e w1 ⟨rfl, c1⟩; have cc1 : Hid _ := c1; clear c1)
        | (go_at_call_of 32 (Value.string f); refine (isPath_val f true _ HF.out H2.out).mono ?_; rintro e w2 ⟨rfl, c2⟩; have cc2 : Hid _ := bel_tr cc1.out c2; clear c2)
        | (go_at_call_of 32 (Value.string t); refine (isPath_val t true _ HT.out H4.out).mono ?_; rintro e w3 ⟨rfl, c3⟩; have cc3 : Hid _ := bel_tr cc2.out c3; clear c3)
        | (go_at_call 55; refine (under_val f t false _ HF.out HT.out H6.out).mono ?_; rintro e w4 ⟨rfl, c4⟩; have cc4 : Hid _ := bel_tr cc3.out c4; clear c4)
        | (go_at_call_of 17 (Value.string f); refine (CF.out _ f _ cc4.out H7.out).mono ?_; rintro e w5 ⟨rfl, c5⟩; have cc5 : Hid _ := bel_tr cc4.out c5; clear c5)
        | (go_at_call 42; refine (CP.out _ _ cc5.out H8.out).mono ?_; rintro e w6 ⟨rfl, c6⟩; have cc6 : Hid _ := bel_tr cc5.out c6; clear c6)
        | (go_at_call_of 17 (Value.string t); refine (CF.out _ t _ cc6.out H9.out).mono ?_; rintro e w7 ⟨rfl, c7⟩; have cc7 : Hid _ := bel_tr cc6.out c7; have y1 := bel_cell cc7.out D1.out; have y2 := bel_cell cc7.out D2.out; clear c7))
      go_ret
      exact ⟨rfl, cc7.out⟩

end Go.Proofs.Ytdcmhbodjmajcaa
