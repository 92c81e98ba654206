/- The contracts of mail.line.push, mail.Send, mail.Twin. -/
import Derived.Test.YtgjbafpjllfdeaaMailF1
namespace Go.Proofs.Ytgjbafpjllfdeaa
open Go.RowKit

/-- One new element, as what is appended. -/
theorem src_newC {α : Type} {f : α → List Value} {k : Nat} {P : Program} {t e : TypeId} (ht : P.underlying t = some (.slice e)) (hf : Wide f k) (W : World) (b : Nat) (x : α) (hc : ∀ j v, (f x)[j]? = some v → W.cell? ⟨b, j, none⟩ = some v) : Src P k t (.slice (some ⟨b, 0, none⟩) 1 1) 1 (f x) W :=
  Src.ofSlice W ht ⟨b, 0, none⟩ 1 1 (f x) (by rw [hf.len, Nat.one_mul]) (fun j u hu => by rw [Addr.add_lit, Nat.zero_add]; exact hc j u hu) (hf.one x)

theorem bel_cell {w W : World} (h : Below w.heap.size w W) {a : Addr} {v : Value} (hc : w.cell? a = some v) : W.cell? a = some v := (h.cell (World.block_lt_of_cell? _ _ hc)).trans hc

section
variable {O : Nat → Prop} {w : World} {p : Nat} {a : Option Addr} {c : Nat} {g : Option Nat} {xs : ML}

theorem MailAt.regrow {w0 w1 w' : World} (h : MailAt (Grow O w1 w') w' p a c g xs) (hs : w0.heap.size ≤ w1.heap.size) (hl : ∀ k, O k → k < w'.heap.size) : MailAt (Grow O w0 w') w' p a c g xs :=
  h.wide (fun _ hk => hk.elim .inl (fun e => .inr ⟨Nat.le_trans hs e.1, e.2⟩)) (fun k hk => hk.elim (hl k) (fun e => e.2))

theorem pushed (h : MailAt O w p a c g xs) {n : Nat} (hn : xs.length = n) {W w2 : World} {a2 : Option Addr} {c2 : Nat} {g2 : Option Nat} {m : Msg} (hb : Below w.heap.size w W) (hC : Cel (Grow O W w2) w2 3 (.slice a2 (n + 1) c2) (n + 1) (rowC agC xs ++ agC (m, 0)) g2) (hs : Stay (fun k => g = some k) W w2) (hf : ∀ k, g2 = some k → g = some k ∨ W.heap.size ≤ k)
    {u : Value} (h0 : w2.cell? ⟨p, 0, none⟩ = some u) (h1 : w2.frozen? ⟨p, 0, none⟩ = false) :
    MailAt (Grow O w (w2.setCell ⟨p, 0, none⟩ (.slice a2 (n + 1) c2))) (w2.setCell ⟨p, 0, none⟩ (.slice a2 (n + 1) c2)) p a2 c2 g2 (xs ++ [(m, 0)]) ∧ Stay O w (w2.setCell ⟨p, 0, none⟩ (.slice a2 (n + 1) c2)) := by
  have hp := h.lt p h.oP
  refine h.setRow ((Stay.of_below hb).trans hs (fun i _ e => ?_)) (by rw [List.length_append, hn]; rfl) (by rw [rowC_app, rowC_one]; exact hC.regrow hb.size) (fun e => ?_) h0 h1
  · have := h.cel
    rw [e] at this
    exact this.lt.2
  · rcases hf p e with e | e
    · exact h.ne e
    · have := hb.size; omega

set_option maxRecDepth 100000 in
set_option maxHeartbeats 1000000 in
theorem push_val (h : MailAt O w p a c g xs) (m : Msg) (hle : xs.length ≤ 1000) :
    Calls Try.prog 23 #[.pointer (some ⟨p, 0, none⟩), msgV m] w fun e w' => e = .returned (.tuple #[]) ∧ (∃ a' c' g', MailAt (Grow O w w') w' p a' c' g' (xs ++ [(m, 0)])) ∧ Stay O w w' := by
  obtain ⟨ti, hi1, hi2, hi3, hi4⟩ := agRow
  have HM : Hid (MailAt O w p a c g xs) := h
  obtain ⟨n, hn⟩ : ∃ n, xs.length = n := ⟨_, rfl⟩
  have HN : Hid (xs.length = n) := hn
  have c0 := cell_al h.c0
  have c0b := fun o => cell_al (c0 o)
  rw [hn] at c0 c0b hle
  have PB : Hid (∀ W w2, Below w.heap.size w W → Stay (fun k => g = some k) W w2 → w2.cell? ⟨p, 0, none⟩ = some (.slice a n c) ∧ w2.frozen? ⟨p, 0, none⟩ = false) := fun W w2 hb hs => by
    have hp := h.lt p h.oP
    have e := (hs.block p (Nat.lt_of_lt_of_le hp hb.size) h.ne).trans (hb.block p hp)
    exact ⟨by rw [World.cell?_of_block (a := ⟨p, 0, none⟩) e, h.c0, hn], by rw [World.frozen?_of_block (a := ⟨p, 0, none⟩) e, h.f0]⟩
  have CB : Hid (∀ W, Below w.heap.size w W → Cel O W 3 (.slice a n c) n (rowC agC xs) g) := fun W hb => by have := h.cel.below hb; rwa [hn] at this
  clear h hn
  have BB : Hid (∀ B1 B2, Below w.heap.size w ((w.alloc B1).alloc B2).drew) := fun B1 B2 => (((Below.refl _ w).alloc (Nat.le_refl _) B1).alloc (by simp) B2).drew
  have HS : Hid (Src Try.prog 3 51 (.slice (some ⟨w.heap.size + 1, 0, none⟩) 1 1) 1 (agC (m, 0)) (((w.alloc (.cells #[.int .i64 m.t, .string m.d] 32)).alloc (.cells #[.int .i64 m.t, .string m.d, .int .i64 0] 60)).drew)) :=
    src_newC Try.underlying51 wideA _ _ (m, 0) (fun j v hv => by
      have e := World.cell?_alloc_new (w.alloc (.cells #[.int .i64 m.t, .string m.d] 32)) #[.int .i64 m.t, .string m.d, .int .i64 0] 60 j
      rw [show (w.alloc (.cells #[.int .i64 m.t, .string m.d] 32)).heap.size = w.heap.size + 1 by simp] at e
      refine e.trans ?_
      show (List.toArray (agC (m, 0)))[j]? = some v
      rw [List.getElem?_toArray]; exact hv)
  unfold msgV
  go_enter Try.func23, Try.ntmps23
  go_wp2
  go_region_law (refine step_append_cel rfl (.tmp 8) (.tmp 11) 51 51 rfl 60 ti _ 3 32 Try.underlying51 hi1 hi2 hi3 hi4 rfl (O := O) _ n _ g (by simp [Act.eval]) (CB.out _ (BB.out _ _)) _ 1 (agC (m, 0)) (by simp [Act.eval]) HS.out (by unfold maxLen; omega) (by omega) ?_; intro a2 c2 w2 g2 hC2 hst2 hf2; obtain ⟨c02, f02⟩ := PB.out _ w2 (BB.out _ _) hst2; have X : Hid (MailAt (Grow O w (w2.setCell ⟨p, 0, none⟩ (.slice a2 (n + 1) c2))) (w2.setCell ⟨p, 0, none⟩ (.slice a2 (n + 1) c2)) p a2 c2 g2 (xs ++ [(m, 0)]) ∧ Stay O w (w2.setCell ⟨p, 0, none⟩ (.slice a2 (n + 1) c2))) := pushed HM.out HN.out (BB.out _ _) hC2 hst2 hf2 c02 f02; clear hC2 hst2 hf2)
  all_goals
    go_wp2
    refine bodyPost_end (results_none rfl _ _ _) rfl ?_
    exact ⟨rfl, ⟨a2, c2, g2, X.out.1⟩, X.out.2⟩

/-- The mail, wherever its row lies. -/
structure MAt (O : Nat → Prop) (w : World) (p : Nat) (xs : ML) : Prop where
  ex : ∃ a c g, MailAt O w p a c g xs

theorem MAt.grow (h : MAt O w p xs) (w0 : World) : MAt (Grow O w0 w) w p xs := by
  obtain ⟨a, c, g, h⟩ := h.ex
  exact ⟨a, c, g, h.grow w0⟩
theorem MAt.below {w' : World} (h : MAt O w p xs) (hb : Below w.heap.size w w') : MAt O w' p xs := by
  obtain ⟨a, c, g, h⟩ := h.ex
  exact ⟨a, c, g, h.below hb⟩
theorem MAt.lt (h : MAt O w p xs) : ∀ k, O k → k < w.heap.size := by
  obtain ⟨a, c, g, h⟩ := h.ex
  exact h.lt
theorem MAt.stay {O2 : Nat → Prop} {w' : World} (h : MAt O w p xs) (hs : Stay O2 w w') (hd : ∀ k, O k → ¬ O2 k) : MAt O w' p xs := by
  obtain ⟨a, c, g, h⟩ := h.ex
  exact ⟨a, c, g, h.stay hs hd⟩

set_option maxRecDepth 100000 in
set_option maxHeartbeats 1000000 in
theorem send_val (h : MAt O w p xs) (m : Msg) (hle : xs.length ≤ 1000) (hd : m.d.size ≤ maxLen) (q : Int) (hq : sendE xs m = q) {ys : ML} (hy : sendL xs m = ys) :
    Calls Try.prog 10 #[.pointer (some ⟨p, 0, none⟩), msgV m] w fun e w' => e = .returned (.int .i64 q) ∧ MAt (Grow O w w') w' p ys ∧ Stay O w w' := by
  obtain ⟨a, c, g, h⟩ := h.ex
  unfold sendE at hq
  unfold sendL at hy
  have hd2 : m.d.size ≤ 9223372036854775807 := by unfold maxLen at hd; omega
  have HB : Hid (∀ o, Below w.heap.size w (w.alloc o)) := fun o => (Below.refl _ w).alloc (Nat.le_refl _) o
  have HM : Hid (∀ W, Below w.heap.size w W → MailAt O W p a c g xs) := fun W hb => h.below hb
  obtain ⟨n, hn⟩ : ∃ n, xs.length = n := ⟨_, rfl⟩
  have HN : Hid (xs.length = n) := hn
  have c0 := cell_al h.c0
  rw [hn] at c0 hq hy hle
  obtain ⟨D, hD⟩ : ∃ D, m.d.size = D := ⟨_, rfl⟩
  have HD : Hid (m.d.size = D) := hD
  have CF : Hid (∀ o v, decide (50 ≤ n) = v → Calls Try.prog 22 #[.pointer (some ⟨p, 0, none⟩)] (w.alloc o) fun e w' => e = .returned (.bool v) ∧ w' = w.alloc o) := fun o v hv => full_val p a n c v _ (c0 o) hv
  clear h hn c0
  by_cases h1 : 50 ≤ n
  · rw [if_pos (.inl h1)] at hq hy
    subst hq hy
    unfold msgV
    go_enter Try.func10, Try.ntmps10
    go_wp2_with (refine (CF.out _ true (decide_eq_true h1)).mono ?_; rintro e w' ⟨rfl, rfl⟩)
    go_ret
    exact ⟨rfl, ⟨_, _, _, (HM.out _ (HB.out _)).grow w⟩, Stay.of_below (HB.out _)⟩
  · by_cases h2 : 4000 < D
    · rw [if_pos (.inr (by omega))] at hq hy
      subst hq hy
      unfold msgV
      go_enter Try.func10, Try.ntmps10
      go_wp2_with (refine (CF.out _ false (decide_eq_false h1)).mono ?_; rintro e w' ⟨rfl, rfl⟩)
      go_ret
      exact ⟨rfl, ⟨_, _, _, (HM.out _ (HB.out _)).grow w⟩, Stay.of_below (HB.out _)⟩
    · rw [if_neg (by omega)] at hq hy
      subst hq hy
      have hl2 : xs.length ≤ 1000 := by rw [HN.out]; exact hle
      have HL : Hid (xs.length ≤ 1000) := hl2
      clear hl2
      have CP : Hid (∀ W, Below w.heap.size w W → Calls Try.prog 23 #[.pointer (some ⟨p, 0, none⟩), .agg #[.int .i64 m.t, .string m.d]] W fun e w' => e = .returned (.tuple #[]) ∧ (∃ a' c' g', MailAt (Grow O W w') w' p a' c' g' (xs ++ [(m, 0)])) ∧ Stay O W w') := fun W hb => push_val (HM.out W hb) m HL.out
      unfold msgV
      go_enter Try.func10, Try.ntmps10
      go_wp2_with (refine (CF.out _ false (decide_eq_false h1)).mono ?_; rintro e w' ⟨rfl, rfl⟩)
      go_region_with (go_at_call 23; refine (CP.out _ (HB.out _).drew).mono ?_; rintro e w2 ⟨rfl, ⟨a2, c2, g2, hm2⟩, hs2⟩)
      all_goals
        go_wp2
        go_ret
        exact ⟨rfl, ⟨a2, c2, g2, hm2.regrow (HB.out _).size (fun k hk => hm2.lt k (.inl hk))⟩, (Stay.of_below (HB.out _).drew).trans hs2 (fun _ _ e => e)⟩

end
end Go.Proofs.Ytgjbafpjllfdeaa
