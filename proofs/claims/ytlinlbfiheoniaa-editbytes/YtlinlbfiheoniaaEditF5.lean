/- The contract of edit.takeNumbers. -/
import Derived.Test.YtlinlbfiheoniaaEditF1
namespace Go.Proofs.Ytlinlbfiheoniaa.Edi
open Go.RowKit Go.Proofs.Ytlinlbfiheoniaa

theorem intRow : ∃ i, Try.prog.info? 3 = some i ∧ i.zero = some (.int .i64 0) ∧ i.size = 1 ∧ i.bytes = 8 :=
  info_parts3 (show (Try.prog.info? 3).map (fun i => (i.zero, i.size, i.bytes)) = some (some (.int .i64 0), 1, 8) by kernel_rfl)
theorem src_int (w : World) (z : Int) : Src Try.prog 1 22 (.slice (some ⟨w.heap.size, 0, none⟩) 1 1) 1 (rowC intC [z]) (w.alloc (.cells #[.int .i64 z] 3)) := by
  refine Src.ofSlice _ Try.underlying22 ⟨w.heap.size, 0, none⟩ 1 1 _ (by simp [rowC, intC]) (fun j u hu => ?_) (rowC_oneCell wideI _)
  rw [Addr.add_lit, Nat.zero_add]
  have e : (w.alloc (.cells #[.int .i64 z] 3)).cell? ⟨w.heap.size, j, none⟩ = (#[Value.int .i64 z])[j]? := World.cell?_alloc_new w _ _ j
  rw [e]
  have h0 : rowC intC [z] = [Value.int .i64 z] := rfl
  rw [h0] at hu
  rw [← hu]; simp

theorem takeN_call {s r : ByteArray} {z : Int} (h : takeN s = some (z, r)) (w : World) (hs : s.size ≤ maxLen) :
    Calls Try.prog 27 #[.string s] w fun e w' => e = .returned (.tuple #[.int .i64 z, .string r, .int .i64 0]) ∧ Below w.heap.size w w' := by
  obtain ⟨y, k, h1, h2, h3⟩ := takeN_yes h
  refine takeNum_val s _ w hs ?_
  rw [takeNumV_yes h1, h2, h3]
theorem takeN_call0 {s : ByteArray} (h : takeN s = none) (w : World) (hs : s.size ≤ maxLen) :
    Calls Try.prog 27 #[.string s] w fun e w' => e = .returned (.tuple #[.int .i64 0, .string ⟨#[]⟩, .int .i64 2]) ∧ Below w.heap.size w w' :=
  takeNum_val s _ w hs (takeNumV_no (takeN_no h))

/-- Numbers, and what stands behind them. -/
structure NumsR (base : Nat) (zs : List Int) (n : Nat) (r : ByteArray) (e : Ending) (w' : World) : Prop where
  ex : ∃ a c g, e = .returned (.tuple #[.slice a n c, .string r, .int .i64 0]) ∧ NO base w' a n c zs g

set_option maxRecDepth 100000 in
set_option maxHeartbeats 2000000 in
theorem takeNumbers_yes (s r : ByteArray) (n : Nat) (zs : List Int) (w : World) (hs : s.size ≤ maxLen) (h8 : n ≤ 8) (h : numsP n s = some (zs, r)) :
    Calls Try.prog 29 #[.string s, .int .i64 n] w fun e w' => NumsR w.heap.size zs n r e w' ∧ Below w.heap.size w w' := by
  obtain ⟨ti, hi1, hi2, hi3, hi4⟩ := intRow
  have HS : Hid (s.size ≤ maxLen) := hs
  have HP : Hid (numsP n s = some (zs, r)) := h
  clear hs h
  go_enter Try.func29, Try.ntmps29
  go_wp2
  go_loopw [4, 5, 6, 7, 10] (fun v4 v5 v6 _ v10 wr => ∃ (i : Nat) (fa : Option Addr) (fc : Nat) (g : Option Nat) (rr : ByteArray) (acc : List Int), i ≤ n ∧ v10 = .int .i64 i ∧ v4 = .slice fa i fc ∧ v5 = .string rr ∧ v6 = .int .i64 0 ∧ rr.size ≤ maxLen ∧ numsP n s = (numsP (n - i) rr).map (fun y => (acc ++ y.1, y.2)) ∧ NO w.heap.size wr fa i fc acc g ∧ Below w.heap.size w wr) (fun _ _ _ _ v10 _ => n - (intOf v10).toNat)
  case atStart => exact ⟨0, none, 0, none, s, [], by omega, rfl, rfl, rfl, rfl, HS.out, by simp, NO.none _ _, Below.refl _ _⟩
  case round =>
    obtain ⟨i, fa, fc, g, rr, acc, hil, rfl, rfl, rfl, rfl, hrr, hE, hO, hb⟩ := hrel
    have HB : Hid (Below w.heap.size w wr) := hb
    have HO : Hid (NO w.heap.size wr fa i fc acc g) := hO
    have HRR : Hid (rr.size ≤ maxLen) := hrr
    have HE : Hid (numsP n s = (numsP (n - i) rr).map (fun y => (acc ++ y.1, y.2))) := hE
    clear hb hO hrr hE
    by_cases hlt : i < n
    · cases hT : takeN rr with
      | none => exact absurd (HP.out.symm.trans (nums_stop hlt HE.out hT)) (fun e => by cases e)
      | some p =>
        obtain ⟨z, rq⟩ := p
        have HT : Hid (takeN rr = some (z, rq)) := hT
        have HE2 : Hid (numsP n s = (numsP (n - (i + 1)) rq).map (fun y => ((acc ++ [z]) ++ y.1, y.2))) := nums_step hlt HE.out hT
        have HQ : Hid (rq.size ≤ maxLen) := Nat.le_trans (takeN_size hT) HRR.out
        clear hT HE
        go_wp2_with (first
          | (go_at_call 27; refine (takeN_call HT.out _ HRR.out).mono ?_; rintro e w1 ⟨rfl, b1⟩; have HB1 : Hid (Below w.heap.size w w1) := bel_tr HB.out b1; have HO1 : Hid (NO w.heap.size w1 fa i fc acc g) := HO.out.below b1; clear b1)
          | (at_builtin; refine wpList_append_cel _ rfl _ _ 22 22 rfl 3 ti _ 1 8 Try.underlying22 hi1 hi2 hi3 hi4 rfl (O := fun k => w.heap.size ≤ k) _ i _ g rfl (HO1.out.below (bel_al _ _)).cel _ 1 (rowC intC [z]) rfl (src_int w1 z) (by unfold maxLen; omega) (by omega) ?_; intro a2 c2 w2 g2 hC2 hS2 hg2; have A2 : Hid _ := (HO1.out.below (bel_al _ _)).app (ys := [z]) rfl hC2 (by have := HB1.out.size; simp; omega); have B2 : Hid _ := (HO1.out.below (bel_al _ _)).appBelow hS2 (by have := HB1.out.size; simp; omega); clear hC2 hS2 hg2))
        go_roundw
        case rel => exact ⟨i + 1, a2, c2, g2, rq, acc ++ [z], by omega, by go_num, rfl, rfl, rfl, HQ.out, HE2.out, A2.out, (HB1.out.trans ((bel_al _ _).mono HB1.out.size)).trans B2.out⟩
        case measure => simp [intOf]; omega
    · obtain rfl : i = n := by omega
      have hgd : decide ((i : Int) < (i : Int)) = false := decide_eq_false (by omega)
      have he := nums_end HE.out
      rw [HP.out] at he
      simp only [Option.some.injEq, Prod.mk.injEq] at he
      obtain ⟨rfl, rfl⟩ := he
      clear hlt HE HP
      go_wp2
      go_ret3
      exact ⟨⟨_, _, _, rfl, HO.out⟩, HB.out⟩

set_option maxRecDepth 100000 in
set_option maxHeartbeats 2000000 in
theorem takeNumbers_no (s : ByteArray) (n : Nat) (w : World) (hs : s.size ≤ maxLen) (h8 : n ≤ 8) (h : numsP n s = none) :
    Calls Try.prog 29 #[.string s, .int .i64 n] w fun e w' => e = .returned (.tuple #[.slice none 0 0, .string ⟨#[]⟩, .int .i64 2]) ∧ Below w.heap.size w w' := by
  obtain ⟨ti, hi1, hi2, hi3, hi4⟩ := intRow
  have HS : Hid (s.size ≤ maxLen) := hs
  have HP : Hid (numsP n s = none) := h
  clear hs h
  go_enter Try.func29, Try.ntmps29
  go_wp2
  go_loopw [4, 5, 6, 7, 10] (fun v4 v5 v6 _ v10 wr => ∃ (i : Nat) (fa : Option Addr) (fc : Nat) (g : Option Nat) (rr : ByteArray) (acc : List Int), i ≤ n ∧ v10 = .int .i64 i ∧ v4 = .slice fa i fc ∧ v5 = .string rr ∧ v6 = .int .i64 0 ∧ rr.size ≤ maxLen ∧ numsP n s = (numsP (n - i) rr).map (fun y => (acc ++ y.1, y.2)) ∧ NO w.heap.size wr fa i fc acc g ∧ Below w.heap.size w wr) (fun _ _ _ _ v10 _ => n - (intOf v10).toNat)
  case atStart => exact ⟨0, none, 0, none, s, [], by omega, rfl, rfl, rfl, rfl, HS.out, by simp, NO.none _ _, Below.refl _ _⟩
  case round =>
    obtain ⟨i, fa, fc, g, rr, acc, hil, rfl, rfl, rfl, rfl, hrr, hE, hO, hb⟩ := hrel
    have HB : Hid (Below w.heap.size w wr) := hb
    have HO : Hid (NO w.heap.size wr fa i fc acc g) := hO
    have HRR : Hid (rr.size ≤ maxLen) := hrr
    have HE : Hid (numsP n s = (numsP (n - i) rr).map (fun y => (acc ++ y.1, y.2))) := hE
    clear hb hO hrr hE
    by_cases hlt : i < n
    · cases hT : takeN rr with
      | none =>
        have HT : Hid (takeN rr = none) := hT
        clear hT HE
        go_wp2_with (go_at_call 27; refine (takeN_call0 HT.out _ HRR.out).mono ?_; rintro e w1 ⟨rfl, b1⟩; have HB1 : Hid (Below w.heap.size w w1) := bel_tr HB.out b1; clear b1)
        go_ret3
        exact ⟨rfl, HB1.out⟩
      | some p =>
        obtain ⟨z, rq⟩ := p
        have HT : Hid (takeN rr = some (z, rq)) := hT
        have HE2 : Hid (numsP n s = (numsP (n - (i + 1)) rq).map (fun y => ((acc ++ [z]) ++ y.1, y.2))) := nums_step hlt HE.out hT
        have HQ : Hid (rq.size ≤ maxLen) := Nat.le_trans (takeN_size hT) HRR.out
        clear hT HE
        go_wp2_with (first
          | (go_at_call 27; refine (takeN_call HT.out _ HRR.out).mono ?_; rintro e w1 ⟨rfl, b1⟩; have HB1 : Hid (Below w.heap.size w w1) := bel_tr HB.out b1; have HO1 : Hid (NO w.heap.size w1 fa i fc acc g) := HO.out.below b1; clear b1)
          | (at_builtin; refine wpList_append_cel _ rfl _ _ 22 22 rfl 3 ti _ 1 8 Try.underlying22 hi1 hi2 hi3 hi4 rfl (O := fun k => w.heap.size ≤ k) _ i _ g rfl (HO1.out.below (bel_al _ _)).cel _ 1 (rowC intC [z]) rfl (src_int w1 z) (by unfold maxLen; omega) (by omega) ?_; intro a2 c2 w2 g2 hC2 hS2 hg2; have A2 : Hid _ := (HO1.out.below (bel_al _ _)).app (ys := [z]) rfl hC2 (by have := HB1.out.size; simp; omega); have B2 : Hid _ := (HO1.out.below (bel_al _ _)).appBelow hS2 (by have := HB1.out.size; simp; omega); clear hC2 hS2 hg2))
        go_roundw
        case rel => exact ⟨i + 1, a2, c2, g2, rq, acc ++ [z], by omega, by go_num, rfl, rfl, rfl, HQ.out, HE2.out, A2.out, (HB1.out.trans ((bel_al _ _).mono HB1.out.size)).trans B2.out⟩
        case measure => simp [intOf]; omega
    · obtain rfl : i = n := by omega
      have he := nums_end HE.out
      rw [HP.out] at he
      cases he

end Go.Proofs.Ytlinlbfiheoniaa.Edi
