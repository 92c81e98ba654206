/- The contracts of tabulariumref05.Send, Twin. -/
import Derived.Test.YtgjbafpjllfdeaaMailRef
namespace Go.Proofs.Ytgjbafpjllfdeaa
open Go.RowKit

theorem intRow : ∃ i, Try.prog.info? 3 = some i ∧ i.zero = some (.int .i64 0) ∧ i.size = 1 ∧ i.bytes = 8 :=
  info_parts (show (Try.prog.info? 3).map (fun i => (i.zero, i.size, i.bytes)) = some (some (.int .i64 0), 1, 8) by kernel_rfl)

/-- One new element that lies in the last block. -/
theorem src_lastB {α : Type} {f : α → List Value} {k : Nat} {P : Program} {t e : TypeId} (ht : P.underlying t = some (.slice e)) (hf : Wide f k) (W : World) (b : Nat) (hb : b = W.heap.size) (x : α) (cells : Array Value) (hc : cells = (f x).toArray) (te : TypeId) : Src P k t (.slice (some ⟨b, 0, none⟩) 1 1) 1 (f x) (W.alloc (.cells cells te)) :=
  src_newC ht hf _ _ x (fun j v hv => by
    subst hb hc
    refine (World.cell?_alloc_new W _ te j).trans ?_
    rw [List.getElem?_toArray]; exact hv)

section
variable {O : Nat → Prop} {w : World} {q : Nat} {a0 : Option Addr} {c0 : Nat} {g0 : Option Nat} {a1 : Option Addr} {c1 : Nat} {g1 : Option Nat} {ms : List Msg} {us : List Nat}

/-- A message is appended to the first row. -/
theorem RefAt.app0 (h : RefAt O w q a0 c0 g0 a1 c1 g1 ms us) {W w2 : World} {n : Nat} (hn : ms.length = n) {a2 : Option Addr} {c2 : Nat} {g2 : Option Nat} {m : Msg} (hb : Below w.heap.size w W) (hC : Cel (Grow O W w2) w2 2 (.slice a2 (n + 1) c2) (n + 1) (rowC msgC ms ++ msgC m) g2) (hs : Stay (fun k => g0 = some k) W w2) (hf : ∀ k, g2 = some k → g0 = some k ∨ W.heap.size ≤ k) :
    w2.cell? ⟨q, 0, none⟩ = some (.slice a0 n c0) ∧ w2.frozen? ⟨q, 0, none⟩ = false ∧ Hid (RefAt (Grow O w (w2.setCell ⟨q, 0, none⟩ (.slice a2 (n + 1) c2))) (w2.setCell ⟨q, 0, none⟩ (.slice a2 (n + 1) c2)) q a2 c2 g2 a1 c1 g1 (ms ++ [m]) us ∧ Stay O w (w2.setCell ⟨q, 0, none⟩ (.slice a2 (n + 1) c2))) := by
  have hq := h.lt q h.oQ
  have e := (hs.block q (Nat.lt_of_lt_of_le hq hb.size) h.n0).trans (hb.block q hq)
  have z : (w2.setCell ⟨q, 0, none⟩ (.slice a2 (n + 1) c2)).heap.size = w2.heap.size := by simp [World.setCell]
  have s1 : Stay (fun k => g0 = some k) w w2 := (Stay.of_below hb).trans hs (fun _ _ e => e)
  refine ⟨by rw [World.cell?_of_block (a := ⟨q, 0, none⟩) e, h.k0, hn], by rw [World.frozen?_of_block (a := ⟨q, 0, none⟩) e, h.f0], ?_, ?_⟩
  · refine h.put0 s1 h.n0 (fun k hk e => h.dj k e hk) (by rw [List.length_append, hn]; rfl) (by rw [rowC_app, rowC_one]; exact hC) (fun e => ?_) (fun k e1 e2 => ?_) (fun k hk => .inl hk) (fun k hk => ?_) (fun k hk => ?_)
    · rcases hf q e with e | e
      · exact h.n0 e
      · have := hb.size; omega
    · rcases hf k e1 with e | e
      · exact h.dj k e e2
      · have := (h.g1O e2).2
        have := hb.size; omega
    · unfold Grow at *
      rw [z]
      exact hk.elim .inl (fun e => .inr ⟨Nat.le_trans hb.size e.1, e.2⟩)
    · unfold Grow at hk
      rw [z] at hk
      exact hk.elim (fun e => Nat.lt_of_lt_of_le (h.lt k e) s1.size) (fun e => e.2)
  · exact (s1.mono (fun k hk => (h.g0O hk).1)).then_same (Stay.setCell _ _ _ h.oQ)

/-- An age is appended to the second. -/
theorem RefAt.app1 (h : RefAt O w q a0 c0 g0 a1 c1 g1 ms us) {W w2 : World} {n : Nat} (hn : us.length = n) {a2 : Option Addr} {c2 : Nat} {g2 : Option Nat} {m : Nat} (hb : Below w.heap.size w W) (hC : Cel (Grow O W w2) w2 1 (.slice a2 (n + 1) c2) (n + 1) (rowC numC us ++ numC m) g2) (hs : Stay (fun k => g1 = some k) W w2) (hf : ∀ k, g2 = some k → g1 = some k ∨ W.heap.size ≤ k) :
    w2.cell? ⟨q, 1, none⟩ = some (.slice a1 n c1) ∧ w2.frozen? ⟨q, 1, none⟩ = false ∧ Hid (RefAt (Grow O w (w2.setCell ⟨q, 1, none⟩ (.slice a2 (n + 1) c2))) (w2.setCell ⟨q, 1, none⟩ (.slice a2 (n + 1) c2)) q a0 c0 g0 a2 c2 g2 ms (us ++ [m]) ∧ Stay O w (w2.setCell ⟨q, 1, none⟩ (.slice a2 (n + 1) c2))) := by
  have hq := h.lt q h.oQ
  have e := (hs.block q (Nat.lt_of_lt_of_le hq hb.size) h.n1).trans (hb.block q hq)
  have z : (w2.setCell ⟨q, 1, none⟩ (.slice a2 (n + 1) c2)).heap.size = w2.heap.size := by simp [World.setCell]
  have s1 : Stay (fun k => g1 = some k) w w2 := (Stay.of_below hb).trans hs (fun _ _ e => e)
  refine ⟨by rw [World.cell?_of_block (a := ⟨q, 1, none⟩) e, h.k1, hn], by rw [World.frozen?_of_block (a := ⟨q, 1, none⟩) e, h.f1], ?_, ?_⟩
  · refine h.put1 s1 h.n1 (fun k hk e => h.dj k hk e) (by rw [List.length_append, hn]; rfl) (by rw [rowC_app, rowC_one]; exact hC) (fun e => ?_) (fun k e1 e2 => ?_) (fun k hk => .inl hk) (fun k hk => ?_) (fun k hk => ?_)
    · rcases hf q e with e | e
      · exact h.n1 e
      · have := hb.size; omega
    · rcases hf k e2 with e | e
      · exact h.dj k e1 e
      · have := (h.g0O e1).2
        have := hb.size; omega
    · unfold Grow at *
      rw [z]
      exact hk.elim .inl (fun e => .inr ⟨Nat.le_trans hb.size e.1, e.2⟩)
    · unfold Grow at hk
      rw [z] at hk
      exact hk.elim (fun e => Nat.lt_of_lt_of_le (h.lt k e) s1.size) (fun e => e.2)
  · exact (s1.mono (fun k hk => (h.g1O hk).1)).then_same (Stay.setCell _ _ _ h.oQ)

theorem RefAt.regrow {w0 w1 w' : World} (h : RefAt (Grow (Grow O w0 w1) w1 w') w' q a0 c0 g0 a1 c1 g1 ms us) (h01 : w0.heap.size ≤ w1.heap.size) (h12 : w1.heap.size ≤ w'.heap.size) : RefAt (Grow O w0 w') w' q a0 c0 g0 a1 c1 g1 ms us :=
  h.wide (fun _ hk => hk.elim (fun hk => hk.elim .inl (fun e => .inr ⟨e.1, Nat.lt_of_lt_of_le e.2 h12⟩)) (fun e => .inr ⟨Nat.le_trans h01 e.1, e.2⟩)) (fun k hk => hk.elim (fun hk => h.lt k (.inl (.inl hk))) (fun e => e.2))

set_option maxRecDepth 100000 in
set_option maxHeartbeats 1000000 in
theorem refSend_at (h : RefAt O w q a0 c0 g0 a1 c1 g1 ms us) (n : Nat) (hn : ms.length = n) (hu : us.length = n) (m : Msg) (hle : n < 50) (hd : m.d.size ≤ 4000) :
    Calls Try.prog 11 #[.pointer (some ⟨q, 0, none⟩), .agg #[.int .i64 m.t, .string m.d]] w fun e w' => e = .returned (.int .i64 0) ∧ (∃ a0 c0 g0 a1 c1 g1, RefAt (Grow O w w') w' q a0 c0 g0 a1 c1 g1 (ms ++ [m]) (us ++ [0])) ∧ Stay O w w' := by
  obtain ⟨ti, hi1, hi2, hi3, hi4⟩ := msgRow
  obtain ⟨tj, hj1, hj2, hj3, hj4⟩ := intRow
  have HM : Hid (RefAt O w q a0 c0 g0 a1 c1 g1 ms us) := h
  have HN : Hid (ms.length = n) := hn
  have HU : Hid (us.length = n) := hu
  have k0 := cell_al h.k0
  have k0b := fun o => cell_al (k0 o)
  rw [hn] at k0 k0b
  have CB : Hid (∀ W, Below w.heap.size w W → Cel O W 2 (.slice a0 n c0) n (rowC msgC ms) g0) := fun W hb => by have := h.r0.below hb; rwa [hn] at this
  have BB : Hid (∀ B1 B2, Below w.heap.size w ((w.alloc B1).alloc B2).drew) := fun B1 B2 => (((Below.refl _ w).alloc (Nat.le_refl _) B1).alloc (by simp) B2).drew
  have HS : Hid (Src Try.prog 2 27 (.slice (some ⟨w.heap.size + 1, 0, none⟩) 1 1) 1 (msgC m) (((w.alloc (.cells #[.int .i64 m.t, .string m.d] 32)).alloc (.cells #[.int .i64 m.t, .string m.d] 32)).drew)) :=
    src_newC Try.underlying27 wideM _ _ m (fun j v hv => by
      have e := World.cell?_alloc_new (w.alloc (.cells #[.int .i64 m.t, .string m.d] 32)) #[.int .i64 m.t, .string m.d] 32 j
      rw [show (w.alloc (.cells #[.int .i64 m.t, .string m.d] 32)).heap.size = w.heap.size + 1 by simp] at e
      refine e.trans ?_
      show (List.toArray (msgC m))[j]? = some v
      rw [List.getElem?_toArray]; exact hv)
  obtain ⟨D, hD⟩ : ∃ D, m.d.size = D := ⟨_, rfl⟩
  rw [hD] at hd
  clear h hn hu
  go_enter Try.func11, Try.ntmps11
  go_wp2
  go_region_law (refine step_append_cel rfl (.tmp 21) (.tmp 23) 27 27 rfl 32 ti _ 2 24 Try.underlying27 hi1 hi2 hi3 hi4 rfl (O := O) _ n _ g0 (by simp [Act.eval]) (CB.out _ (BB.out _ _)) _ 1 (msgC m) (by simp [Act.eval]) HS.out (by unfold maxLen; omega) (by omega) ?_; intro a2 c2 w2 g2 hC2 hst2 hf2; obtain ⟨c02, f02, X⟩ := HM.out.app0 HN.out (BB.out _ _) hC2 hst2 hf2; clear hC2 hst2 hf2)
  all_goals
    have c13 := X.out.1.k1
    have f13 := X.out.1.f1
    rw [HU.out] at c13
    clear c02 f02 k0 k0b
    generalize w2.setCell ⟨q, 0, none⟩ (.slice a2 (n + 1) c2) = W3 at *
    have CB3 : Hid (∀ o, Cel (Grow O w W3) (W3.alloc o) 1 (.slice a1 n c1) n (rowC numC us) g1) := fun o => by have := X.out.1.r1.below ((Below.refl _ W3).alloc (Nat.le_refl _) o); rwa [HU.out] at this
    go_wp2_with (at_builtin; refine wpList_append_cel _ rfl _ _ 28 28 rfl 3 tj _ 1 8 Try.underlying28 hj1 hj2 hj3 hj4 rfl (O := Grow O w W3) _ n _ g1 rfl (CB3.out _) _ 1 (numC 0) rfl (src_lastB Try.underlying28 wideN W3 _ rfl 0 _ rfl _) (by unfold maxLen; omega) (by omega) ?_; intro a4 c4 w4 g4 hC4 hst4 hf4; obtain ⟨c14, f14, Y⟩ := X.out.1.app1 HU.out ((Below.refl _ W3).alloc (Nat.le_refl _) _) hC4 hst4 hf4; clear hC4 hst4 hf4)
    go_ret
    exact ⟨rfl, ⟨_, _, _, _, _, _, Y.out.1.regrow X.out.2.size Y.out.2.size⟩, X.out.2.andThen Y.out.2⟩

end

section
variable {O : Nat → Prop} {w : World} {q : Nat} {xs ys : ML}

theorem XAt.below {w' : World} (h : XAt O w q xs) (hb : Below w.heap.size w w') : XAt O w' q xs := by
  obtain ⟨a0, c0, g0, a1, c1, g1, h⟩ := h.ex
  exact ⟨a0, c0, g0, a1, c1, g1, h.below hb⟩
theorem XAt.grow (h : XAt O w q xs) (w0 : World) : XAt (Grow O w0 w) w q xs := by
  obtain ⟨a0, c0, g0, a1, c1, g1, h⟩ := h.ex
  exact ⟨a0, c0, g0, a1, c1, g1, h.grow w0⟩

set_option maxRecDepth 100000 in
set_option maxHeartbeats 1000000 in
theorem refSend_val (h : XAt O w q xs) (m : Msg) (hle : xs.length ≤ 1000) (hd : m.d.size ≤ maxLen) (r : Int) (hr : sendE xs m = r) (hy : sendL xs m = ys) :
    Calls Try.prog 11 #[.pointer (some ⟨q, 0, none⟩), .agg #[.int .i64 m.t, .string m.d]] w fun e w' => e = .returned (.int .i64 r) ∧ XAt (Grow O w w') w' q ys ∧ Stay O w w' := by
  obtain ⟨a0, c0, g0, a1, c1, g1, h⟩ := h.ex
  unfold sendE at hr
  unfold sendL at hy
  have hd2 : m.d.size ≤ 9223372036854775807 := by unfold maxLen at hd; omega
  by_cases h1 : 50 ≤ xs.length ∨ 4000 < m.d.size
  · rw [if_pos h1] at hr hy
    subst hr hy
    have HX : Hid (∀ o, XAt (Grow O w (w.alloc o)) (w.alloc o) q xs) := fun o => ⟨_, _, _, _, _, _, (h.below ((Below.refl _ w).alloc (Nat.le_refl _) o)).grow w⟩
    have k0 := cell_al h.k0
    rw [List.length_map] at k0
    obtain ⟨n, hn⟩ : ∃ n, xs.length = n := ⟨_, rfl⟩
    rw [hn] at k0 h1 hle
    obtain ⟨D, hD⟩ : ∃ D, m.d.size = D := ⟨_, rfl⟩
    rw [hD] at h1 hd2
    clear h hn hd
    by_cases h2 : 50 ≤ n
    · clear h1
      go_enter Try.func11, Try.ntmps11
      go_wp2
      go_ret
      exact ⟨rfl, HX.out _, Stay.of_below ((Below.refl _ w).alloc (Nat.le_refl _) _)⟩
    · have h3 : 4000 < D := by omega
      clear h1
      go_enter Try.func11, Try.ntmps11
      go_wp2
      go_ret
      exact ⟨rfl, HX.out _, Stay.of_below ((Below.refl _ w).alloc (Nat.le_refl _) _)⟩
  · rw [if_neg h1] at hr hy
    subst hr hy
    refine (refSend_at h xs.length (by simp) (by simp) m (by omega) (by omega)).mono fun e w' ⟨e1, ⟨a0, c0, g0, a1, c1, g1, e2⟩, e3⟩ => ⟨e1, ⟨a0, c0, g0, a1, c1, g1, ?_⟩, e3⟩
    rw [List.map_append, List.map_append]
    exact e2

set_option maxRecDepth 100000 in
set_option maxHeartbeats 1000000 in
theorem refTwin_val (h : XAt O w q xs) (i : Int) (hle : xs.length ≤ 1000) (hsm : ∀ x ∈ xs, x.1.d.size ≤ 4000) (r : Int) (hr : twinE xs i = r) (hy : twinL xs i = ys) :
    Calls Try.prog 15 #[.pointer (some ⟨q, 0, none⟩), .int .i64 i] w fun e w' => e = .returned (.int .i64 r) ∧ XAt (Grow O w w') w' q ys ∧ Stay O w w' := by
  have HX : Hid _ := h
  obtain ⟨a0, c0, g0, a1, c1, g1, h⟩ := h.ex
  unfold twinE at hr
  unfold twinL at hy
  have k0 := h.k0
  rw [List.length_map] at k0
  obtain ⟨n, hn⟩ : ∃ n, xs.length = n := ⟨_, rfl⟩
  cases ho : atM xs i with
  | none =>
    rw [ho] at hr hy
    simp only at hr hy
    subst hr hy
    have hi := atM_miss ho
    rw [hn] at k0 hi
    clear h ho hn hle
    by_cases h0 : i < 0
    · clear hi
      go_enter Try.func15, Try.ntmps15
      go_wp2
      go_ret
      exact ⟨rfl, HX.out.grow w, Stay.refl _ _⟩
    · have h1 : (n : Int) ≤ i := by omega
      clear hi
      go_enter Try.func15, Try.ntmps15
      go_wp2
      go_ret
      exact ⟨rfl, HX.out.grow w, Stay.refl _ _⟩
  | some m =>
    rw [ho] at hr hy
    simp only at hr hy
    obtain ⟨k, rfl, hk, hm⟩ := atM_hit ho
    have hms : m.d.size ≤ 4000 := by rw [← hm]; exact hsm _ (List.getElem_mem hk)
    have hkm : k < (xs.map (·.1)).length := by rw [List.length_map]; exact hk
    obtain ⟨b, hab, hgb, he⟩ := h.r0.elem wideM hkm rfl
    subst hab hgb
    have hxm : (xs.map (·.1))[k] = m := by rw [List.getElem_map]; exact hm
    rw [hxm] at he
    have e0 : w.cell? ⟨b, k * 2, none⟩ = some (.int .i64 m.t) := he 0 _ rfl
    have e1 : w.cell? ⟨b, k * 2 + 1, none⟩ = some (.string m.d) := he 1 _ rfl
    have CS : Hid (Calls Try.prog 11 #[.pointer (some ⟨q, 0, none⟩), .agg #[.int .i64 m.t, .string m.d]] w fun e w' => e = .returned (.int .i64 r) ∧ XAt (Grow O w w') w' q ys ∧ Stay O w w') := by
      refine refSend_val HX.out m hle (by unfold maxLen; omega) r ?_ ?_
      · rw [← hr]; unfold sendE
        by_cases h50 : 50 ≤ xs.length
        · rw [if_pos (.inl h50), if_pos h50]
        · rw [if_neg (by omega), if_neg h50]
      · rw [← hy]; unfold sendL
        by_cases h50 : 50 ≤ xs.length
        · rw [if_pos (.inl h50), if_pos h50]
        · rw [if_neg (by omega), if_neg h50]
    rw [hn] at k0 hk hle
    clear h ho hn hm hxm he hkm hr hy hsm hms
    go_enter Try.func15, Try.ntmps15
    go_wp2_with (refine CS.out.mono ?_; rintro e w1 ⟨rfl, h1, h2⟩)
    go_ret
    exact ⟨rfl, h1, h2⟩

end
end Go.Proofs.Ytgjbafpjllfdeaa
