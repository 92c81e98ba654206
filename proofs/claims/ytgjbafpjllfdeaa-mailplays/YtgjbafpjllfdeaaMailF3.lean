/- The contracts of mail.Twin, slices.Delete, mail.line.cut, mail.Take. -/
import Derived.Test.YtgjbafpjllfdeaaMailF2
namespace Go.Proofs.Ytgjbafpjllfdeaa
open Go.RowKit

theorem zeroAg (w : World) : (zeroValue 60).run Try.prog w = .ok (.agg #[.int .i64 0, .string ⟨#[]⟩, .int .i64 0]) w := by kernel_rfl
theorem zeroAg1 : ∀ i : Nat, ((Value.agg #[.int .i64 0, .string ⟨#[]⟩, .int .i64 0]).cells[i % (Value.agg #[.int .i64 0, .string ⟨#[]⟩, .int .i64 0]).cells.size]!).oneCell' = true := by
  intro i
  show ((#[Value.int .i64 0, .string ⟨#[]⟩, .int .i64 0] : Array Value)[i % 3]!).oneCell' = true
  have h : i % 3 = 0 ∨ i % 3 = 1 ∨ i % 3 = 2 := by omega
  rcases h with h | h | h <;> rw [h] <;> rfl

section
variable {O : Nat → Prop} {w : World} {p : Nat} {a : Option Addr} {c : Nat} {g : Option Nat} {xs : ML}

/-- What is left when the k-th is taken out. -/
theorem erase_cells (xs : ML) (k : Nat) : rowC agC (xs.take k) ++ rowC agC (xs.drop (k + 1)) = rowC agC (xs.eraseIdx k) := by
  rw [← rowC_app, List.eraseIdx_eq_take_drop_succ]

set_option maxRecDepth 100000 in
set_option maxHeartbeats 1000000 in
theorem delete_val {b n : Nat} (h : Cel O w 3 (.slice (some ⟨b, 0, none⟩) n c) n (rowC agC xs) (some b)) (hn : xs.length = n) (k j : Nat) (hk : k < n) (hj : j = k + 1) (hle : n ≤ 1000) (n1 : Nat) (hn1 : n1 + 1 = n) :
    Calls Try.prog 29 #[.slice (some ⟨b, 0, none⟩) n c, .int .i64 (k : Int), .int .i64 (j : Int)] w fun e w' => e = .returned (.slice (some ⟨b, 0, none⟩) n1 c) ∧ Cel O w' 3 (.slice (some ⟨b, 0, none⟩) n1 c) n1 (rowC agC (xs.eraseIdx k)) (some b) ∧ Stay (fun i => i = b) w w' ∧ w'.heap.size = w.heap.size := by
  obtain ⟨ti, hi1, hi2, hi3, hi4⟩ := agRow
  obtain ⟨hc1, hc2, _⟩ := h.cap2
  obtain ⟨r, hr⟩ : ∃ r, n - j = r := ⟨_, rfl⟩
  obtain ⟨news, hnews⟩ : ∃ news, rowC agC (xs.drop j) = news := ⟨_, rfl⟩
  have hnl : news.length = r * 3 := by rw [← hnews, rowC_len wideA, List.length_drop, hn, hr]
  obtain ⟨A, hA, hsrc⟩ : ∃ A : Addr, (if c = j then some (⟨b, 0, none⟩ : Addr) else some ⟨b, j * 3, none⟩) = some A ∧ (∀ t u, news[t]? = some u → w.drew.cell? (A.add t) = some u) := by
    by_cases e : c = j
    · refine ⟨⟨b, 0, none⟩, by simp [e], fun t u hu => ?_⟩
      have : t < news.length := (List.getElem?_eq_some_iff.1 hu).1
      omega
    · refine ⟨⟨b, j * 3, none⟩, by simp [e], fun t u hu => ?_⟩
      rw [Addr.add_lit]
      rw [← hnews, ← rowC_drop wideA xs j (by omega), List.getElem?_drop] at hu
      obtain ⟨h1, h2⟩ := List.getElem?_eq_some_iff.1 hu
      rw [← h2]; exact h.cell _ h1
  have h0 : Cel O w.drew 3 (.slice (some ⟨b, 0, none⟩) n c) n (rowC agC xs) (some b) := h.below (Below.refl _ w).drew
  have hlv := h0.live
  have hO := h.lt.2
  have s3 : Hid (∀ t, t < news.length → (w.drew.cell? ⟨b, 0 + k * 3 + t, none⟩).isSome = true ∧ w.drew.frozen? ⟨b, 0 + k * 3 + t, none⟩ = false) := fun t ht => hlv _ (by omega)
  have s2 : Hid (∀ u ∈ news, u.oneCell' = true) := by rw [← hnews]; exact rowC_oneCell wideA _
  have hkr : k + r = n1 := by omega
  obtain ⟨W1, hW1⟩ : ∃ W1, W1 = w.drew.setCells b (0 + k * 3) news := ⟨_, rfl⟩
  have hel : (rowC agC (xs.eraseIdx k)).length = n1 * 3 := by rw [rowC_len wideA, List.length_eraseIdx, if_pos (by omega)]; congr 1; omega
  have C1 : Cel O W1 3 (.slice (some ⟨b, 0, none⟩) n1 c) n1 (rowC agC (xs.eraseIdx k)) (some b) := by
    rw [hW1]
    refine h0.setCells (0 + k * 3) news (by omega) n1 _ (by omega) hel (fun i hi => ?_)
    rw [← List.getElem?_eq_getElem hi]
    rw [← erase_cells xs k]
    have hkl : (rowC agC (xs.take k)).length = k * 3 := by rw [rowC_len wideA, List.length_take]; congr 1; omega
    rw [hel] at hi
    by_cases e : 0 + k * 3 ≤ i ∧ i < 0 + k * 3 + news.length
    · rw [if_pos e, List.getElem?_append_right (by omega), hkl, ← hj, hnews]
      congr 1; omega
    · rw [if_neg e, List.getElem?_append_left (by omega), ← rowC_take wideA xs k (by omega), List.getElem?_take, if_pos (by omega)]
  have hcl : ∀ ty, (Builtin.clear_ #[51] ty #[.slice (some ⟨b, n1 * 3, none⟩) 1 (c - n1)]).run Try.prog W1 = .ok (.tuple #[]) (W1.setCells b (n1 * 3) (Builtin.zeroCells (Value.agg #[.int .i64 0, .string ⟨#[]⟩, .int .i64 0]).cells 1).toList) := fun ty =>
    run_clear_cel W1 51 60 ty _ Try.underlying51 zeroAg zeroAg1 b (n1 * 3) 1 (c - n1) (by omega) (fun t ht => (C1.live _ (by have : t < 3 := ht; omega)).1) (fun t ht => (C1.live _ (by have : t < 3 := ht; omega)).2)
  have C2 : Cel O (W1.setCells b (n1 * 3) (Builtin.zeroCells (Value.agg #[.int .i64 0, .string ⟨#[]⟩, .int .i64 0]).cells 1).toList) 3 (.slice (some ⟨b, 0, none⟩) n1 c) n1 (rowC agC (xs.eraseIdx k)) (some b) := by
    have hz : (Builtin.zeroCells (Value.agg #[.int .i64 0, .string ⟨#[]⟩, .int .i64 0]).cells 1).toList.length = 3 := by rw [Array.length_toList, size_zeroCells]; rfl
    refine C1.setCells _ _ (by omega) n1 _ (by omega) hel (fun i hi => ?_)
    rw [if_neg (by omega), List.getElem?_eq_getElem hi]
  have st : Stay (fun i => i = b) w (W1.setCells b (n1 * 3) (Builtin.zeroCells (Value.agg #[.int .i64 0, .string ⟨#[]⟩, .int .i64 0]).cells 1).toList) := by
    rw [hW1]
    exact ((Stay.of_below (Below.refl _ w).drew).then_same (Stay.setCells (O := fun i => i = b) b _ _ _ rfl)).then_same (Stay.setCells (O := fun i => i = b) b _ _ _ rfl)
  have hsz : (W1.setCells b (n1 * 3) (Builtin.zeroCells (Value.agg #[.int .i64 0, .string ⟨#[]⟩, .int .i64 0]).cells 1).toList).heap.size = w.heap.size := by
    rw [(tape_setCellsC b _ _ _).2.2.2, hW1, (tape_setCellsC b _ _ _).2.2.2]; rfl
  have HF : Hid _ := And.intro C2 (And.intro st hsz)
  have S1 : Hid _ := hnl
  have SR : Hid _ := hsrc
  have HW : Hid _ := hW1
  have hjc : j ≤ c := by omega
  have hkc : k ≤ c := by omega
  have hkj : k ≤ j := by omega
  have hjn : j ≤ n := by omega
  have hne : ¬ (k = j) := by omega
  have hnez : ((k : Int) == (j : Int)) = false := beq_eq_false_iff_ne.2 (by omega)
  have hnc : ¬ (c = n1) := by omega
  have hn11 : n - n1 = 1 := by omega
  have hn1n : n1 ≤ n := by omega
  generalize (Builtin.zeroCells (Value.agg #[.int .i64 0, .string ⟨#[]⟩, .int .i64 0]).cells 1).toList = zs at *
  clear C2 st hsz hnl hsrc hW1 C1 hlv h0 h hnews hel hn hn1 hO hj
  go_enter Try.func29, Try.ntmps29
  go_wp2_with fail
  go_region_law (refine step_append_room rfl (.tmp 22) (.tmp 25) 51 rfl 60 ti 3 Try.underlying51 hi1 hi3 b 0 k c (by simp [Act.eval, Act.put]) A r (c - j) news (by simp [Act.eval, Act.put]) S1.out SR.out s2.out (by omega) s3.out ?_; rw [← HW.out])
  all_goals
    go_wp2
    go_ret
    exact ⟨rfl, HF.out⟩

set_option maxRecDepth 100000 in
set_option maxHeartbeats 1000000 in
theorem cut_val (h : MailAt O w p a c g xs) (k : Nat) (hk : k < xs.length) (hle : xs.length ≤ 1000) :
    Calls Try.prog 25 #[.pointer (some ⟨p, 0, none⟩), .int .i64 (k : Int)] w fun e w' => e = .returned (.tuple #[]) ∧ (∃ a' c' g', MailAt (Grow O w w') w' p a' c' g' (xs.eraseIdx k)) ∧ Stay O w w' := by
  have HM : Hid (MailAt O w p a c g xs) := h
  obtain ⟨n, hn⟩ : ∃ n, xs.length = n := ⟨_, rfl⟩
  obtain ⟨n1, hn1⟩ : ∃ n1, n1 + 1 = n := ⟨n - 1, by omega⟩
  obtain ⟨j, hj⟩ : ∃ j, j = k + 1 := ⟨_, rfl⟩
  have hcel := h.cel
  rw [hn] at hcel hk hle
  obtain ⟨b, rfl, rfl⟩ := hcel.at2 (by omega)
  have hel : (xs.eraseIdx k).length = n1 := by rw [List.length_eraseIdx, if_pos (by omega)]; omega
  have CD : Hid (Calls Try.prog 29 #[.slice (some ⟨b, 0, none⟩) n c, .int .i64 (k : Int), .int .i64 (j : Int)] w fun e w' => e = .returned (.slice (some ⟨b, 0, none⟩) n1 c) ∧ w'.cell? ⟨p, 0, none⟩ = some (.slice (some ⟨b, 0, none⟩) n c) ∧ w'.frozen? ⟨p, 0, none⟩ = false ∧
      Hid (MailAt (Grow O w (w'.setCell ⟨p, 0, none⟩ (.slice (some ⟨b, 0, none⟩) n1 c))) (w'.setCell ⟨p, 0, none⟩ (.slice (some ⟨b, 0, none⟩) n1 c)) p (some ⟨b, 0, none⟩) c (some b) (xs.eraseIdx k) ∧ Stay O w (w'.setCell ⟨p, 0, none⟩ (.slice (some ⟨b, 0, none⟩) n1 c)))) :=
    (delete_val hcel hn k j hk hj hle n1 hn1).mono fun e w' ⟨e1, e2, e3, e4⟩ => by
      have hp := h.lt p h.oP
      have ne : p ≠ b := fun e => h.ne (by rw [e])
      have eb := e3.block p hp ne
      have q0 : w'.cell? ⟨p, 0, none⟩ = some (.slice (some ⟨b, 0, none⟩) n c) := by rw [World.cell?_of_block (a := ⟨p, 0, none⟩) eb, h.c0, hn]
      have q1 : w'.frozen? ⟨p, 0, none⟩ = false := by rw [World.frozen?_of_block (a := ⟨p, 0, none⟩) eb, h.f0]
      exact ⟨e1, q0, q1, h.setRow (e3.mono (fun i hi => by subst hi; exact hcel.lt.2)) hel (e2.stay (Nat.le_refl _) (fun _ _ => rfl) (fun _ hk => .inl hk)) h.ne q0 q1⟩
  have c0 := h.c0
  rw [hn] at c0
  have hkj : (k : Int) + 1 = (j : Int) := by omega
  have hjx : j ≤ 1000 := by omega
  clear h hcel hn hn1 hj hel
  go_enter Try.func25, Try.ntmps25
  go_wp2_with (refine CD.out.mono ?_; rintro e w1 ⟨rfl, q0, q1, hX⟩)
  refine bodyPost_end (results_none rfl _ _ _) rfl ?_
  exact ⟨rfl, ⟨_, _, _, hX.out.1⟩, hX.out.2⟩

theorem boxed (hO : ∀ k, O k → k < w.heap.size) {W2 w3 W4 : World} (R : Nat) (hR : R = w.heap.size) (hsz : w.heap.size + 1 ≤ W2.heap.size) (h02 : Below w.heap.size w W2) (h23 : Stay O W2 w3) {ys : ML} (hm : ∃ a c g, MailAt (Grow O W2 w3) w3 p a c g ys) (h34 : Stay (fun k => k = R) w3 W4) : MAt (Grow O w W4) W4 p ys ∧ Stay O w W4 := by
  obtain ⟨a, c, g, hm⟩ := hm
  have s03 : Stay O w w3 := (Stay.of_below h02).trans h23 (fun _ _ e => e)
  have s04 : Stay O w W4 := s03.trans h34 (fun i hi e => by omega)
  have h1 := hm.stay h34 (fun k hk e => hk.elim (fun hk => by have := hO k hk; omega) (fun hk => by omega))
  exact ⟨⟨a, c, g, h1.wide (fun k hk => hk.elim .inl (fun e => .inr ⟨by omega, Nat.lt_of_lt_of_le e.2 h34.size⟩)) (fun k hk => hk.elim (fun hk => Nat.lt_of_lt_of_le (hO k hk) s04.size) (fun e => e.2))⟩, s04⟩

theorem Stay.cellOut {O : Nat → Prop} {w w' : World} (h : Stay O w w') {b j : Nat} {v : Value} (hc : w.cell? ⟨b, j, none⟩ = some v) (hb : ¬ O b) : w'.cell? ⟨b, j, none⟩ = some v :=
  (World.cell?_of_block (a := ⟨b, j, none⟩) (h.block b (World.block_lt_of_cell? _ _ hc) hb)).trans hc
theorem Stay.frozOut {O : Nat → Prop} {w w' : World} (h : Stay O w w') {b j : Nat} (hf : w.frozen? ⟨b, j, none⟩ = false) (hl : b < w.heap.size) (hb : ¬ O b) : w'.frozen? ⟨b, j, none⟩ = false :=
  (World.frozen?_of_block (a := ⟨b, j, none⟩) (h.block b hl hb)).trans hf

set_option maxRecDepth 100000 in
set_option maxHeartbeats 1000000 in
theorem take_hit (h : MailAt O w p a c g xs) (k : Nat) (hk : k < xs.length) (hle : xs.length ≤ 1000) (m : Msg) (hm : xs[k].1 = m) :
    Calls Try.prog 12 #[.pointer (some ⟨p, 0, none⟩), .int .i64 (k : Int)] w fun e w' => e = .returned (.tuple #[msgV m, .bool true]) ∧ MAt (Grow O w w') w' p (xs.eraseIdx k) ∧ Stay O w w' := by
  have CA : Hid (∀ W, Below w.heap.size w W → Calls Try.prog 24 #[.pointer (some ⟨p, 0, none⟩), .int .i64 (k : Int)] W fun e w' => e = .returned (.tuple #[.agg #[.int .i64 m.t, .string m.d], .bool true]) ∧ Below W.heap.size W w') := fun W hb => at_hit (h.below hb) k hk m hm
  have CC : Hid (∀ W, Below w.heap.size w W → Calls Try.prog 25 #[.pointer (some ⟨p, 0, none⟩), .int .i64 (k : Int)] W fun e w' => e = .returned (.tuple #[]) ∧ (∃ a' c' g', MailAt (Grow O W w') w' p a' c' g' (xs.eraseIdx k)) ∧ Stay O W w') := fun W hb => cut_val (h.below hb) k hk hle
  have hO := h.lt
  have HO : Hid _ := hO
  have hst := run_store_str
  clear h hk hle hm hO
  go_enter Try.func12, Try.ntmps12
  go_wp2_with fail
  refine (CA.out _ ((Below.refl _ w).alloc (Nat.le_refl _) _)).mono ?_
  rintro e w1 ⟨rfl, hb1⟩
  have hsz1 : w.heap.size + 1 ≤ w1.heap.size := by have := hb1.size; simpa using this
  have HZ : Hid _ := hsz1
  have r0 : w1.cell? ⟨w.heap.size, 0, none⟩ = some (.int .i64 0) := bel_cell hb1 (World.cell?_alloc_new w _ _ 0)
  have r1 : w1.cell? ⟨w.heap.size, 1, none⟩ = some (.string ⟨#[]⟩) := bel_cell hb1 (World.cell?_alloc_new w _ _ 1)
  have rf : ∀ j, w1.frozen? ⟨w.heap.size, j, none⟩ = false := fun j => (World.frozen?_of_block (a := ⟨w.heap.size, j, none⟩) (hb1.block w.heap.size (by simp))).trans (World.frozen?_alloc_new w _ _ j)
  have RR : Hid _ := And.intro r0 (And.intro r1 rf)
  have HB1 : Hid _ := bel_tr ((Below.refl _ w).alloc (Nat.le_refl _) _) hb1
  clear r0 r1 rf hsz1 hb1
  go_wp2_with fail
  refine (CC.out _ (HB1.out.alloc (by have := HZ.out; omega) _)).mono ?_
  rintro e w3 ⟨rfl, hm3, hs3⟩
  have hz1 := HZ.out
  have ne0 : ¬ O w.heap.size := fun e => by have := HO.out _ e; omega
  have ne1 : ¬ O w1.heap.size := fun e => by have := HO.out _ e; omega
  have x0 : w3.cell? ⟨w1.heap.size, 0, none⟩ = some (.int .i64 m.t) := hs3.cellOut (World.cell?_alloc_new w1 _ _ 0) ne1
  have x1 : w3.cell? ⟨w1.heap.size, 1, none⟩ = some (.string m.d) := hs3.cellOut (World.cell?_alloc_new w1 _ _ 1) ne1
  have y0 : w3.cell? ⟨w.heap.size, 0, none⟩ = some (.int .i64 0) := hs3.cellOut (cell_al RR.out.1 _) ne0
  have y1 : w3.cell? ⟨w.heap.size, 1, none⟩ = some (.string ⟨#[]⟩) := hs3.cellOut (cell_al RR.out.2.1 _) ne0
  have yf0 : w3.frozen? ⟨w.heap.size, 0, none⟩ = false := hs3.frozOut (froz_al RR.out.1 (RR.out.2.2 0) _) (by simp; omega) ne0
  have yf1 : w3.frozen? ⟨w.heap.size, 1, none⟩ = false := hs3.frozOut (froz_al RR.out.2.1 (RR.out.2.2 1) _) (by simp; omega) ne0
  have X : Hid _ := boxed HO.out w.heap.size rfl (by simp; omega) (HB1.out.alloc (by omega) _) hs3 hm3 (((Stay.refl _ w3).then_same (Stay.setCell (O := fun k => k = w.heap.size) w3 ⟨w.heap.size, 0, none⟩ (.int .i64 m.t) rfl)).then_same (Stay.setCell _ ⟨w.heap.size, 1, none⟩ (.string m.d) rfl))
  clear hm3 hs3 CA CC
  generalize w.heap.size = R at *
  go_wp2
  have z0 := World.cell?_setCell_same w3 ⟨R, 0, none⟩ (.int .i64 m.t) y0
  have z1 : ((w3.setCell ⟨R, 0, none⟩ (.int .i64 m.t)).setCell ⟨R, 1, none⟩ (.string m.d)).cell? ⟨R, 1, none⟩ = some (.string m.d) := World.cell?_setCell_same _ _ _ ((World.cell?_setCell_other _ _ _ _ (by simp)).trans y1)
  exact bodyPost_ret (v := .tuple #[msgV m, .bool true]) (by simp [results, msgV, Try.results12, go_sem, z0, z1]) rfl ⟨rfl, X.out⟩

set_option maxRecDepth 100000 in
set_option maxHeartbeats 1000000 in
theorem take_miss (h : MailAt O w p a c g xs) (i : Int) (hi : i < 0 ∨ (xs.length : Int) ≤ i) :
    Calls Try.prog 12 #[.pointer (some ⟨p, 0, none⟩), .int .i64 i] w fun e w' => e = .returned (.tuple #[msgV zeroM, .bool false]) ∧ MAt (Grow O w w') w' p xs ∧ Stay O w w' := by
  have CA : Hid (∀ W, Below w.heap.size w W → Calls Try.prog 24 #[.pointer (some ⟨p, 0, none⟩), .int .i64 i] W fun e w' => e = .returned (.tuple #[.agg #[.int .i64 0, .string ⟨#[]⟩], .bool false]) ∧ Below W.heap.size W w') := fun W hb => at_miss (h.below hb) i hi
  have HM : Hid (∀ W, Below w.heap.size w W → MailAt O W p a c g xs) := fun W hb => h.below hb
  have hO := h.lt
  have HO : Hid _ := hO
  have hst := run_store_str
  clear h hO
  go_enter Try.func12, Try.ntmps12
  go_wp2_with fail
  refine (CA.out _ ((Below.refl _ w).alloc (Nat.le_refl _) _)).mono ?_
  rintro e w1 ⟨rfl, hb1⟩
  have hsz1 : w.heap.size + 1 ≤ w1.heap.size := by have := hb1.size; simpa using this
  have r0 : w1.cell? ⟨w.heap.size, 0, none⟩ = some (.int .i64 0) := bel_cell hb1 (World.cell?_alloc_new w _ _ 0)
  have r1 : w1.cell? ⟨w.heap.size, 1, none⟩ = some (.string ⟨#[]⟩) := bel_cell hb1 (World.cell?_alloc_new w _ _ 1)
  have rf : ∀ j, w1.frozen? ⟨w.heap.size, j, none⟩ = false := fun j => (World.frozen?_of_block (a := ⟨w.heap.size, j, none⟩) (hb1.block w.heap.size (by simp))).trans (World.frozen?_alloc_new w _ _ j)
  have HB1 : Hid _ := bel_tr ((Below.refl _ w).alloc (Nat.le_refl _) _) hb1
  have y0 := cell_al r0
  have y1 := cell_al r1
  have yf0 := froz_al r0 (rf 0)
  have yf1 := froz_al r1 (rf 1)
  have X : Hid _ := boxed HO.out w.heap.size rfl (by simp; omega) (HB1.out.alloc (by omega) (.cells #[.int .i64 0, .string ⟨#[]⟩] 32)) (Stay.refl _ _) ⟨a, c, g, (HM.out _ (HB1.out.alloc (by omega) (.cells #[.int .i64 0, .string ⟨#[]⟩] 32))).grow _⟩ (((Stay.refl _ _).then_same (Stay.setCell (O := fun k => k = w.heap.size) _ ⟨w.heap.size, 0, none⟩ (.int .i64 0) rfl)).then_same (Stay.setCell _ ⟨w.heap.size, 1, none⟩ (.string ⟨#[]⟩) rfl))
  clear CA hb1 r0 r1 rf
  generalize w.heap.size = R at *
  go_wp2
  have z0 := fun o => World.cell?_setCell_same (w1.alloc o) ⟨R, 0, none⟩ (.int .i64 0) (y0 o)
  have z1 : ∀ o, (((w1.alloc o).setCell ⟨R, 0, none⟩ (.int .i64 0)).setCell ⟨R, 1, none⟩ (.string ⟨#[]⟩)).cell? ⟨R, 1, none⟩ = some (.string ⟨#[]⟩) := fun o => World.cell?_setCell_same _ _ _ ((World.cell?_setCell_other _ _ _ _ (by simp)).trans (y1 o))
  exact bodyPost_ret (v := .tuple #[msgV zeroM, .bool false]) (by simp [results, msgV, zeroM, Try.results12, go_sem, z0, z1]) rfl ⟨rfl, X.out⟩

theorem take_val (h : MAt O w p xs) (i : Int) (hle : xs.length ≤ 1000) (o : Option Msg) (ho : atM xs i = o) {ys : ML} (hy : takeL xs i = ys) :
    Calls Try.prog 12 #[.pointer (some ⟨p, 0, none⟩), .int .i64 i] w fun e w' => e = .returned (.tuple #[msgV (o.getD zeroM), .bool o.isSome]) ∧ MAt (Grow O w w') w' p ys ∧ Stay O w w' := by
  obtain ⟨a, c, g, h⟩ := h.ex
  cases o with
  | none =>
    have hi := atM_miss ho
    have e : ys = xs := by
      rw [← hy]; unfold takeL
      split
      · rw [List.eraseIdx_of_length_le (by omega)]
      · rfl
    rw [e]
    exact take_miss h i hi
  | some m =>
    obtain ⟨k, rfl, hk, hm⟩ := atM_hit ho
    have e : ys = xs.eraseIdx k := by rw [← hy]; unfold takeL; rw [if_pos (by omega), Int.toNat_natCast]
    rw [e]
    exact take_hit h k hk hle m hm

set_option maxRecDepth 100000 in
set_option maxHeartbeats 1000000 in
theorem twin_val (h : MAt O w p xs) (i : Int) (hle : xs.length ≤ 1000) (q : Int) (hq : twinE xs i = q) {ys : ML} (hy : twinL xs i = ys) :
    Calls Try.prog 14 #[.pointer (some ⟨p, 0, none⟩), .int .i64 i] w fun e w' => e = .returned (.int .i64 q) ∧ MAt (Grow O w w') w' p ys ∧ Stay O w w' := by
  obtain ⟨a, c, g, h⟩ := h.ex
  unfold twinE at hq
  unfold twinL at hy
  have HM : Hid (∀ W, Below w.heap.size w W → MailAt O W p a c g xs) := fun W hb => h.below hb
  have hst := run_store_str
  cases ho : atM xs i with
  | none =>
    rw [ho] at hq hy
    simp only at hq hy
    subst hq hy
    have CA : Hid (Calls Try.prog 24 #[.pointer (some ⟨p, 0, none⟩), .int .i64 i] w fun e w' => e = .returned (.tuple #[.agg #[.int .i64 0, .string ⟨#[]⟩], .bool false]) ∧ Below w.heap.size w w') := at_miss h i (atM_miss ho)
    clear h ho
    go_enter Try.func14, Try.ntmps14
    go_wp2_with fail
    refine CA.out.mono ?_
    rintro e w1 ⟨rfl, hb1⟩
    have HB : Hid (∀ o, Below w.heap.size w (w1.alloc o)) := fun o => hb1.alloc hb1.size o
    clear hb1
    go_wp2
    go_ret
    exact ⟨rfl, ⟨a, c, g, (HM.out _ (HB.out _)).grow _⟩, Stay.of_below (HB.out _)⟩
  | some m =>
    rw [ho] at hq hy
    simp only at hq hy
    obtain ⟨k, rfl, hk, hm⟩ := atM_hit ho
    have CA : Hid (Calls Try.prog 24 #[.pointer (some ⟨p, 0, none⟩), .int .i64 (k : Int)] w fun e w' => e = .returned (.tuple #[.agg #[.int .i64 m.t, .string m.d], .bool true]) ∧ Below w.heap.size w w') := at_hit h k hk m hm
    obtain ⟨n, hn⟩ : ∃ n, xs.length = n := ⟨_, rfl⟩
    have HN : Hid (xs.length = n) := hn
    rw [hn] at hq hy
    have CF : Hid (∀ W v, Below w.heap.size w W → decide (50 ≤ n) = v → Calls Try.prog 22 #[.pointer (some ⟨p, 0, none⟩)] W fun e w' => e = .returned (.bool v) ∧ w' = W) := fun W v hb hv => full_val p a n c v _ (by have := (h.below hb).c0; rwa [hn] at this) hv
    have HL : Hid (xs.length ≤ 1000) := hle
    clear h ho hm hk hn hle
    by_cases h1 : 50 ≤ n
    · rw [if_pos h1] at hq hy
      subst hq hy
      go_enter Try.func14, Try.ntmps14
      go_wp2_with fail
      refine CA.out.mono ?_
      rintro e w1 ⟨rfl, hb1⟩
      have HB : Hid (∀ o, Below w.heap.size w (w1.alloc o)) := fun o => hb1.alloc hb1.size o
      clear hb1
      go_wp2_with (refine (CF.out _ true (HB.out _) (decide_eq_true h1)).mono ?_; rintro e w' ⟨rfl, rfl⟩)
      go_ret
      exact ⟨rfl, ⟨a, c, g, (HM.out _ (HB.out _)).grow _⟩, Stay.of_below (HB.out _)⟩
    · rw [if_neg h1] at hq hy
      subst hq hy
      have CP : Hid (∀ W, Below w.heap.size w W → Calls Try.prog 23 #[.pointer (some ⟨p, 0, none⟩), .agg #[.int .i64 m.t, .string m.d]] W fun e w' => e = .returned (.tuple #[]) ∧ (∃ a' c' g', MailAt (Grow O W w') w' p a' c' g' (xs ++ [(m, 0)])) ∧ Stay O W w') := fun W hb => push_val (HM.out W hb) m HL.out
      go_enter Try.func14, Try.ntmps14
      go_wp2_with fail
      refine CA.out.mono ?_
      rintro e w1 ⟨rfl, hb1⟩
      have HB : Hid (∀ o, Below w.heap.size w (w1.alloc o)) := fun o => hb1.alloc hb1.size o
      clear hb1
      go_wp2_with (refine (CF.out _ false (HB.out _) (decide_eq_false h1)).mono ?_; rintro e w' ⟨rfl, rfl⟩)
      go_region_with (go_at_call 23; refine (CP.out _ (HB.out _).drew).mono ?_; rintro e w2 ⟨rfl, ⟨a2, c2, g2, hm2⟩, hs2⟩)
      all_goals
        go_wp2
        go_ret
        exact ⟨rfl, ⟨a2, c2, g2, hm2.regrow (HB.out _).size (fun k hk => hm2.lt k (.inl hk))⟩, (Stay.of_below (HB.out _).drew).trans hs2 (fun _ _ e => e)⟩

end
end Go.Proofs.Ytgjbafpjllfdeaa
