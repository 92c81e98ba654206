/- The contract of law16.examples. -/
import Derived.Test.YtapnjgmihfmapaaChsL1
import Derived.Deep.RegionHeld3
namespace Go.Proofs.Ytapnjgmihfmapaa.Chs
open Go.RowKit Go.Proofs.Ytapnjgmihfmapaa Go.Proofs.Ytapnjgmihfmapaa.Lgg
set_option linter.unusedVariables false

def exL (a1 a2 a3 : Option Addr) (c1 c2 c3 : Nat) : List Ls := [⟨2, a1, c1, longE xT 3⟩, ⟨2, a2, c2, longE xT 5⟩, ⟨1, a3, c3, longE xT 9⟩]
theorem ex_best (a1 a2 a3 : Option Addr) (c1 c2 c3 : Nat) : bestI (exL a1 a2 a3 c1 c2 c3) 3 = 1 := by
  simp [bestI, btr, exL, long_len]
theorem ex_kN (a1 a2 a3 : Option Addr) (c1 c2 c3 : Nat) (e : Int) (k : Nat) : kN (exL a1 a2 a3 c1 c2 c3) e k = (if 2 = e ∧ k ≤ 3 then 1 else 0) + ((if 2 = e ∧ k ≤ 5 then 1 else 0) + ((if 1 = e ∧ k ≤ 9 then 1 else 0) + 0)) := by
  show kN ([_] ++ ([_] ++ ([_] ++ []))) e k = _
  rw [kN_app, kN_app, kN_app, kN_one, kN_one, kN_one, long_len, long_len, long_len]
  rfl
theorem ex_top (a1 a2 a3 : Option Addr) (c1 c2 c3 : Nat) : topI (exL a1 a2 a3 c1 c2 c3) 2 (exL a1 a2 a3 c1 c2 c3).length = some 2 := by
  have h := topI_top (exL a1 a2 a3 c1 c2 c3) 2 (by omega) _ (Nat.le_refl _)
  rw [List.take_length] at h
  refine h.same (o' := some 2) ⟨by rw [ex_kN]; decide, fun e' he => ?_⟩
  rw [ex_kN] at he
  by_cases h2 : (2 : Int) = e'
  · omega
  · rw [if_neg (fun h => h2 h.1), if_neg (fun h => h2 h.1)] at he
    split at he <;> omega
theorem ex_com (a1 a2 a3 : Option Addr) (c1 c2 c3 : Nat) : comT (exL a1 a2 a3 c1 c2 c3) 2 = longE xT 3 := by
  obtain ⟨q, hq, h1, h2, h3, h4⟩ := com_some (by omega) (ex_top a1 a2 a3 c1 c2 c3)
  have k3 := (kth_is (xs := exL a1 a2 a3 c1 c2 c3) (e := 2) (N := 2) (by omega) h4 3).2 (by rw [ex_kN]; decide)
  have k4 : ¬ 4 ≤ kth (exL a1 a2 a3 c1 c2 c3) 2 2 := fun h => by
    have := (kth_is (xs := exL a1 a2 a3 c1 c2 c3) (e := 2) (N := 2) (by omega) h4 4).1 h
    rw [ex_kN] at this
    simp at this
  have hk : kth (exL a1 a2 a3 c1 c2 c3) 2 2 = 3 := by omega
  rw [hk] at h1 h2 h3
  have hq0 : q = 0 := by
    rcases Nat.eq_zero_or_pos q with h | h
    · exact h
    · have := h2 0 h
      simp [okL, exL, long_len] at this
  subst hq0
  rw [h3]
  show (longE xT 3).take 3 = _
  rw [List.take_of_length_le (by rw [long_len]; omega)]
theorem ex_agr : agr (longE xT 3) (longE xT 5) = 3 := by
  refine agr_is _ _ 3 (by rw [long_len]; omega) (by rw [long_len]; omega) (fun j h1 h2 _ => ?_) (.inl (long_len _ _).symm)
  simp [longE]

set_option maxRecDepth 100000 in
set_option maxHeartbeats 4000000 in
theorem examples_val (w : World) : Calls Try.prog 7 #[] w fun e w' => e = .returned (.bool true) ∧ Below w.heap.size w w' := by
  go_enter Try.func7, Try.ntmps7
  go_wp2_with fail
  refine (long_val 2 3 (by omega) _).mono ?_
  rintro e w1 ⟨⟨a1, d1, g1, rfl, hC1⟩, b1⟩
  have HC1 : Hid _ := hC1
  have HB1 : Hid (Below w.heap.size w w1) := b1
  clear hC1 b1
  go_wp2_with fail
  refine (long_val 2 5 (by omega) _).mono ?_
  rintro e w2 ⟨⟨a2, d2, g2, rfl, hC2⟩, b2⟩
  have HC2 : Hid _ := hC2
  have HB2 : Hid (Below w1.heap.size w1 w2) := b2
  clear hC2 b2
  go_wp2_with fail
  refine (long_val 1 9 (by omega) _).mono ?_
  rintro e w3 ⟨⟨a3, d3, g3, rfl, hC3⟩, b3⟩
  have HC3 : Hid _ := hC3
  have HB3 : Hid (Below w2.heap.size w2 w3) := b3
  clear hC3 b3
  have HL : Hid (∀ t W, Below (w3.alloc (.cells #[.int .i64 2, .slice a1 3 d1, .int .i64 2, .slice a2 5 d2, .int .i64 1, .slice a3 9 d3] t)).heap.size (w3.alloc (.cells #[.int .i64 2, .slice a1 3 d1, .int .i64 2, .slice a2 5 d2, .int .i64 1, .slice a3 9 d3] t)) W → LsAt (fun b => b < W.heap.size) (fun b => b < W.heap.size) W (some ⟨w3.heap.size, 0, none⟩) (exL a1 a2 a3 d1 d2 d3)) := fun t W hW => by
    have hcell : ∀ (j : Nat) (u : Value), (rowC lsC (exL a1 a2 a3 d1 d2 d3))[j]? = some u → W.cell? ⟨w3.heap.size, 0 + j, none⟩ = some u := fun j u hu => by
      rw [Nat.zero_add]
      refine bel_cell hW ?_
      rw [World.cell?_alloc_new w3 _ t j]
      have e : rowC lsC (exL a1 a2 a3 d1 d2 d3) = [.int .i64 2, .slice a1 3 d1, .int .i64 2, .slice a2 5 d2, .int .i64 1, .slice a3 9 d3] := by
        simp [rowC, exL, lsC, long_len]
      rw [e] at hu
      simpa using hu
    have hz := hW.size
    have hz2 : w3.heap.size < W.heap.size := by
      have : (w3.alloc (.cells #[.int .i64 2, .slice a1 3 d1, .int .i64 2, .slice a2 5 d2, .int .i64 1, .slice a3 9 d3] t)).heap.size = w3.heap.size + 1 := by simp
      omega
    have hlie : ∀ {a : Option Addr} {n d : Nat} {es : List En} {g : Option Nat} {O : Nat → Prop} {V : World}, es.length = n → Cel O V 2 (.slice a n d) n (rowC enC es) g → Below V.heap.size V W → Lie enC (fun b => b < W.heap.size) W a es := fun he hC hb => by
      subst he
      exact ((Lie.of_cel wideN hC).below hb).mono (fun k _ hk => hk)
    have t3 : Below w3.heap.size w3 W := bel_tr (bel_al _ _) hW
    have t2 : Below w2.heap.size w2 W := bel_tr HB3.out t3
    have t1 : Below w1.heap.size w1 W := bel_tr HB2.out t2
    refine ⟨⟨by show 3 ≤ maxLen; unfold maxLen; omega, fun _ => ⟨w3.heap.size, 0, rfl, hz2, hz2, hcell⟩⟩, fun x hx => ?_, fun x hx => ?_, fun x hx => ?_⟩
    · simp only [exL, List.mem_cons, List.not_mem_nil, or_false] at hx
      rcases hx with rfl | rfl | rfl
      · exact hlie (long_len _ _) HC1.out t1
      · exact hlie (long_len _ _) HC2.out t2
      · exact hlie (long_len _ _) HC3.out t3
    · simp only [exL, List.mem_cons, List.not_mem_nil, or_false] at hx
      rcases hx with rfl | rfl | rfl <;> first | exact (⟨by decide, by decide⟩ : In64 2) | exact (⟨by decide, by decide⟩ : In64 1)
    · simp only [exL, List.mem_cons, List.not_mem_nil, or_false] at hx
      rcases hx with rfl | rfl | rfl <;> (simp only [long_len]; first | exact ⟨HC1.out.cap2.1, by omega⟩ | exact ⟨HC2.out.cap2.1, by omega⟩ | exact ⟨HC3.out.cap2.1, by omega⟩)
  go_wp2_with fail
  obtain ⟨W4, hW4⟩ : ∃ W4, w3.alloc (.cells #[.int .i64 2, .slice a1 3 d1, .int .i64 2, .slice a2 5 d2, .int .i64 1, .slice a3 9 d3] 31) = W4 := ⟨_, rfl⟩
  have HLW : Hid (∀ W, Below W4.heap.size W4 W → LsAt (fun b => b < W.heap.size) (fun b => b < W.heap.size) W (some ⟨w3.heap.size, 0, none⟩) (exL a1 a2 a3 d1 d2 d3)) := fun W hb => HL.out _ W (by rw [hW4]; exact hb)
  have HB4 : Hid (Below w.heap.size w W4) := by
    have := bel_tr (bel_tr (bel_tr HB1.out HB2.out) HB3.out) (bel_al w3 (.cells #[.int .i64 2, .slice a1 3 d1, .int .i64 2, .slice a2 5 d2, .int .i64 1, .slice a3 9 d3] 31))
    rw [hW4] at this
    exact this
  rw [hW4]
  have HS : Hid (∀ W, Below W4.heap.size W4 W → W.cell? ⟨w3.heap.size, 1, none⟩ = some (.slice a1 3 d1) ∧ W.cell? ⟨w3.heap.size, 3, none⟩ = some (.slice a2 5 d2)) := fun W hb => by
    obtain ⟨b, off, he, hat⟩ := Lie.all wideL (HLW.out W hb).row (by show 0 < 3; omega)
    simp only [Option.some.injEq, Addr.mk.injEq, and_true] at he
    obtain ⟨rfl, rfl⟩ := he
    exact ⟨hat 0 (by show 0 < 3; omega) 1 _ rfl, hat 1 (by show 1 < 3; omega) 1 _ rfl⟩
  have KC : Hid (∀ W, Below W4.heap.size W4 W → Calls Try.prog 9 #[.slice (some ⟨w3.heap.size, 0, none⟩) 3 3, .int .i64 2] W fun e w' => EnsR W.heap.size (longE xT 3) 3 e w' ∧ Below W.heap.size W w') := fun W hb => committed_val (HLW.out W hb) 3 3 rfl (by omega) 2 ⟨by omega, by omega⟩ 2 rfl _ (ex_com _ _ _ _ _ _) 3 (long_len _ _)
  have KB : Hid (∀ W, Below W4.heap.size W4 W → Calls Try.prog 13 #[.slice (some ⟨w3.heap.size, 0, none⟩) 3 3] W fun e w' => e = .returned (.int .i64 1) ∧ Below W.heap.size W w') := fun W hb => best_val (HLW.out W hb) 3 3 rfl (by omega) 1 (ex_best _ _ _ _ _ _)
  have K3 : Hid (∀ W, Calls Try.prog 15 #[.int .i64 3] W fun e w' => e = .returned (.int .i64 2) ∧ w' = W) := fun W => most_val 3 ⟨by omega, by omega⟩ 2 (by decide) W
  have K4 : Hid (∀ W, Calls Try.prog 15 #[.int .i64 4] W fun e w' => e = .returned (.int .i64 3) ∧ w' = W) := fun W => most_val 4 ⟨by omega, by omega⟩ 3 (by decide) W
  have KA : Hid (∀ W, Below W4.heap.size W4 W → Calls Try.prog 11 #[.slice a1 3 d1, .slice a2 5 d2] W fun e w' => e = .returned (.int .i64 (3 : Nat)) ∧ Below W.heap.size W w') := fun W hb => by
    have h := HLW.out W hb
    exact agree_val (h.each ⟨2, a1, d1, longE xT 3⟩ (by simp [exL])) (h.each ⟨2, a2, d2, longE xT 5⟩ (by simp [exL])) 3 5 d1 d2 (long_len _ _) (long_len _ _) 3 ex_agr
  clear HL HLW hW4 HC1 HC2 HC3 HB1 HB2 HB3
  go_region_held3 (fun W => W.cell? ⟨w3.heap.size, 1, none⟩ = some (.slice a1 3 d1) ∧ W.cell? ⟨w3.heap.size, 3, none⟩ = some (.slice a2 5 d2))
    (first | exact HS.out _ (Below.refl _ W4).drew | exact HS.out _ BC.out | exact HS.out _ BD.out | exact HS.out _ BE.out)
    (first
      | (go_at_call 9; refine (KC.out _ (Below.refl _ W4).drew).mono ?_; rintro e w5 ⟨⟨a5, c5, g5, rfl, _⟩, hb5⟩; have BC : Hid (Below W4.heap.size W4 w5) := bel_tr (Below.refl _ W4).drew hb5; clear hb5)
      | (go_at_call 13; refine (KB.out _ BC.out).mono ?_; rintro e w6 ⟨rfl, hb6⟩; have BD : Hid (Below W4.heap.size W4 w6) := bel_tr BC.out hb6; clear hb6)
      | (go_at_call 15; refine (K3.out _).mono ?_; rintro e w7 ⟨rfl, rfl⟩)
      | (go_at_call 15; refine (K4.out _).mono ?_; rintro e w8 ⟨rfl, rfl⟩)
      | (go_at_call 11; refine (KA.out _ BD.out).mono ?_; rintro e w9 ⟨rfl, hb9⟩; have BE : Hid (Below W4.heap.size W4 w9) := bel_tr BD.out hb9; clear hb9))
  all_goals
    go_wp2
    go_ret
    exact ⟨rfl, bel_tr HB4.out BE.out⟩

end Go.Proofs.Ytapnjgmihfmapaa.Chs
