/- The contract of tree.Remove. -/
import Derived.Test.YtdcmhbodjmajcaaTreeF7
namespace Go.Proofs.Ytdcmhbodjmajcaa
open Go.RowKit

/-- A list of nodes of the call's own, and an error, are told. -/
structure TwoR (base : Nat) (xs : NS) (E : Int) (e : Ending) (w' : World) : Prop where
  ex : ∃ a n c, e = .returned (.tuple #[.slice a n c, .int .i64 E]) ∧ LX base w' a n c xs

theorem TwoR.no (base : Nat) (E : Int) {e : Ending} {w' : World} (h : e = .returned (.tuple #[.slice none 0 0, .int .i64 E])) : TwoR base [] E e w' := ⟨none, 0, 0, h, LX.no _ _⟩

set_option maxRecDepth 100000 in
set_option maxHeartbeats 1000000 in
theorem remove_val {a : Option Addr} {n c : Nat} {xs : NS} {w : World} (h : NL w a n xs) (p : ByteArray) (hp : p.size ≤ maxLen) (E : Int) (hE : RemE xs p E) :
    Calls Try.prog 24 #[.slice a n c, .string p] w fun e w' => TwoR w.heap.size (remL xs p E) E e w' ∧ Below w.heap.size w w' := by
  have CR : Hid (∀ W u, Below w.heap.size w W → (u = true ↔ Right xs) → Calls Try.prog 15 #[.slice a n c] W fun e w' => e = .returned (.bool u) ∧ Below W.heap.size W w') := fun W u hb hu => right_val (h.below hb) u hu
  have CF : Hid (∀ W I, Below w.heap.size w W → findI xs p = I → Calls Try.prog 17 #[.slice a n c, .string p] W fun e w' => e = .returned (.int .i64 I) ∧ Below W.heap.size W w') := fun W I hb hI => find_val (h.below hb) p I hI
  have HP : Hid (p.size ≤ maxLen) := hp
  have e0 := root_eq p
  have HLEN : Hid (xs.length = n) := by obtain ⟨_, _, _, _, k2, _⟩ := h.ex; exact k2
  have HNL : Hid (NL w a n xs) := h
  have hst := run_store_str
  clear h hp
  cases hE with
  | arg hn =>
    have hr : remL xs p 1 = [] := rfl
    rw [hr]
    by_cases h1 : Right xs
    · have H1 : Hid (true = true ↔ Right xs) := ⟨fun _ => h1, fun _ => rfl⟩
      cases h2 : pathB p with
      | false =>
        have H2 : Hid _ := h2
        clear h1 h2 hn e0
        go_enter Try.func24, Try.ntmps24
        go_wp2_with (first
          | (go_at_call 15; refine (CR.out _ true (bel_al _ _) H1.out).mono ?_; rintro e w1 ⟨rfl, c1⟩; have cc : Hid _ := bel_tr (bel_al _ _) c1; have tp := bel_cell c1 (World.cell?_alloc_new w _ _ 0); clear c1)
          | (go_at_call 32; refine (isPath_val p false _ HP.out H2.out).mono ?_; rintro e w2 ⟨rfl, c2⟩; have cc2 : Hid _ := bel_tr cc.out c2; clear c2))
        go_ret2
        exact ⟨TwoR.no _ _ rfl, cc2.out⟩
      | true =>
        have H2 : Hid _ := h2
        have h3 : p = rootP := by
          by_cases h3 : p = rootP
          · exact h3
          · exact absurd ⟨h1, h2, h3⟩ hn
        rw [decide_eq_true h3] at e0
        clear h1 h2 h3 hn
        go_enter Try.func24, Try.ntmps24
        go_wp2_with (first
          | (go_at_call 15; refine (CR.out _ true (bel_al _ _) H1.out).mono ?_; rintro e w1 ⟨rfl, c1⟩; have cc : Hid _ := bel_tr (bel_al _ _) c1; have tp := bel_cell c1 (World.cell?_alloc_new w _ _ 0); clear c1)
          | (go_at_call 32; refine (isPath_val p true _ HP.out H2.out).mono ?_; rintro e w2 ⟨rfl, c2⟩; have cc2 : Hid _ := bel_tr cc.out c2; have tp2 := bel_cell c2 tp; clear c2))
        go_ret2
        exact ⟨TwoR.no _ _ rfl, cc2.out⟩
    · have H1 : Hid (false = true ↔ Right xs) := ⟨fun e => (by cases e), fun e => absurd e h1⟩
      clear h1 hn e0
      go_enter Try.func24, Try.ntmps24
      go_wp2_with (go_at_call 15; refine (CR.out _ false (bel_al _ _) H1.out).mono ?_; rintro e w1 ⟨rfl, c1⟩; have cc : Hid _ := bel_tr (bel_al _ _) c1; clear c1)
      go_ret2
      exact ⟨TwoR.no _ _ rfl, cc.out⟩
  | none h1 h2 h3 h4 =>
    have hr : remL xs p 5 = [] := rfl
    rw [hr]
    have H1 : Hid (true = true ↔ Right xs) := ⟨fun _ => h1, fun _ => rfl⟩
    have H2 : Hid _ := h2
    have H4 : Hid (findI xs p = -1) := find_neg h4
    rw [decide_eq_false h3] at e0
    clear h1 h2 h3 h4
    go_enter Try.func24, Try.ntmps24
    go_wp2_with (first
      | (go_at_call 15; refine (CR.out _ true (bel_al _ _) H1.out).mono ?_; rintro e w1 ⟨rfl, c1⟩; have cc : Hid _ := bel_tr (bel_al _ _) c1; have tp := bel_cell c1 (World.cell?_alloc_new w _ _ 0); clear c1)
      | (go_at_call 32; refine (isPath_val p true _ HP.out H2.out).mono ?_; rintro e w2 ⟨rfl, c2⟩; have cc2 : Hid _ := bel_tr cc.out c2; have tp2 := bel_cell c2 tp; clear c2)
      | (go_at_call 17; refine (CF.out _ _ cc2.out H4.out).mono ?_; rintro e w3 ⟨rfl, c3⟩; have cc3 : Hid _ := bel_tr cc2.out c3; clear c3))
    go_ret2
    exact ⟨TwoR.no _ _ rfl, cc3.out⟩
  | ok h1 h2 h3 h4 =>
    have hr : remL xs p 0 = leftL xs p := rfl
    rw [hr]
    have H1 : Hid (true = true ↔ Right xs) := ⟨fun _ => h1, fun _ => rfl⟩
    have H2 : Hid _ := h2
    obtain ⟨i, h5, h6⟩ := find_pos h4
    have H5 : Hid (findI xs p = (i : Int)) := h5
    rw [decide_eq_false h3] at e0
    have hn60 : n ≤ 60 := by rw [← HLEN.out]; exact h1.few
    have H8 : Hid (∀ x ∈ xs, x.bs.length ≤ 8) := h1.few8
    obtain ⟨m, hm⟩ : ∃ m, (leftL xs p).length = m := ⟨_, rfl⟩
    have CC : Hid (∀ W, Below w.heap.size w W → W.cell? ⟨w.heap.size, 0, none⟩ = some (.string p) → Calls Try.prog 34 #[.slice a n c, .func (.func 54) #[] #[.pointer (some ⟨w.heap.size, 0, none⟩)]] W fun e w' => ListR W.heap.size (leftL xs p) m e w' ∧ Below W.heap.size W w') := fun W hb hc =>
      chosen_val (HNL.out.below hb) hn60 H8.out 54 #[.pointer (some ⟨w.heap.size, 0, none⟩)] (fun x => !underB p x.path) (enters_of Try.func54 (by kernel_rfl) rfl) (fun W2 x hb2 hx => remove1_val p HP.out w.heap.size W2 (bel_cell hb2 hc) x hx) (leftL xs p) rfl m hm
    clear h1 h2 h3 h4 h5 hm
    go_enter Try.func24, Try.ntmps24
    go_wp2_with (first
      | (go_at_call 15; refine (CR.out _ true (bel_al _ _) H1.out).mono ?_; rintro e w1 ⟨rfl, c1⟩; have cc : Hid _ := bel_tr (bel_al _ _) c1; have tp := bel_cell c1 (World.cell?_alloc_new w _ _ 0); clear c1)
      | (go_at_call 32; refine (isPath_val p true _ HP.out H2.out).mono ?_; rintro e w2 ⟨rfl, c2⟩; have cc2 : Hid _ := bel_tr cc.out c2; have tp2 := bel_cell c2 tp; clear c2)
      | (go_at_call 17; refine (CF.out _ _ cc2.out H5.out).mono ?_; rintro e w3 ⟨rfl, c3⟩; have cc3 : Hid _ := bel_tr cc2.out c3; have tp3 := bel_cell c3 tp2; clear c3)
      | (go_at_call 34; refine (CC.out _ cc3.out tp3).mono ?_; rintro e w4 ⟨⟨a4, c4, rfl, hX⟩, c5⟩; have cc4 : Hid _ := bel_tr cc3.out c5; have HX : Hid (LX w3.heap.size w4 a4 m c4 (leftL xs p)) := hX; clear c5 hX))
    go_ret2
    exact ⟨⟨a4, m, c4, rfl, HX.out.mono cc3.out.size⟩, cc4.out⟩

end Go.Proofs.Ytdcmhbodjmajcaa
