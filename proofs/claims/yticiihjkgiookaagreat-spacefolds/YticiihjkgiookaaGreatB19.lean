/- Part 19 of the proof: QuotaF1. -/
import Derived.Test.YticiihjkgiookaaGreatB12
import Derived.Test.YticiihjkgiookaaGreatB18

/- The contracts of quota.line, quota.limited. -/
namespace Go.Proofs.YticiihjkgiookaaGreat
open Go.RowKit

/-- A list of texts is told, of the call's own. -/
structure TextsR (base : Nat) (ss : List ByteArray) (m : Nat) (e : Ending) (w' : World) : Prop where
  ex : ∃ a c g, e = .returned (.slice a m c) ∧ Cel (fun k => base ≤ k) w' 1 (.slice a m c) m (rowC strC ss) g

theorem up_parent {N : List ByteArray} (g : Good N) {k m : Nat} (hk : k + 1 + m = N.length) : ∃ nm, parentX (pathT (N.take (N.length - k))) = (pathT (N.take (N.length - (k + 1))), nm, 0) := by
  have g2 := good_take g (N.length - k)
  have hN := splitN_good g2
  have hl : (splitN (pathT (N.take (N.length - k)))).length = m + 1 := by rw [hN, List.length_take]; omega
  refine par_last (splitE_good g2) hl ?_
  rw [hN, List.take_take, show min m (N.length - k) = N.length - (k + 1) by omega]
theorem up_root {N : List ByteArray} {k : Nat} (hk : k = N.length) : parentX (pathT (N.take (N.length - k))) = (⟨#[]⟩, ⟨#[]⟩, 1) := by
  subst hk
  rw [Nat.sub_self, List.take_zero]
  exact parentX_root (splitE_good good_nil) (splitN_good good_nil)

theorem cel_new1 (w : World) (s : ByteArray) (t : TypeId) : Cel (fun k => w.heap.size ≤ k) (w.alloc (.cells #[.string s] t)) 1 (.slice (some ⟨w.heap.size, 0, none⟩) 1 1) 1 (rowC strC [s]) (some w.heap.size) := by
  refine .row _ 1 rfl rfl (Nat.le_refl _) (by simp) (Nat.le_refl _) (by unfold maxLen; omega) (fun j hj => ?_) (fun j hj => ?_)
  · have hj1 : j < 1 := hj
    obtain rfl : j = 0 := by omega
    exact World.cell?_alloc_new w _ _ 0
  · obtain rfl : j = 0 := by omega
    exact ⟨by rw [World.cell?_alloc_new]; rfl, World.frozen?_alloc_new w _ _ 0⟩

set_option maxRecDepth 100000 in
theorem limited_val (x : NR) (w : World) (v : Bool) (hv : decide (0 ≤ x.1.quota) = v) : Calls Tryz.prog 78 #[ndV x] w fun e w' => e = .returned (.bool v) ∧ Below w.heap.size w w' := by
  obtain ⟨⟨p, d, q, bs, wb⟩, ⟨a, n, c⟩⟩ := x
  unfold ndV
  simp only at hv ⊢
  subst hv
  go_enter Tryz.func78, Tryz.ntmps78
  go_wp2
  go_ret
  exact ⟨rfl, bel_al _ _⟩

set_option maxRecDepth 100000 in
set_option maxHeartbeats 2000000 in
theorem line_val (p : ByteArray) (w : World) (hp : splitE p = 0) (m : Nat) (hm : (lineL p).length = m) :
    Calls Tryz.prog 120 #[.string p] w fun e w' => TextsR w.heap.size (lineL p) m e w' ∧ Below w.heap.size w w' := by
  obtain ⟨ti, hi1, hi2, hi3, hi4⟩ := strRow
  have g := (split_ok hp).1
  have hpp := splitX_ok hp
  unfold lineL at *
  generalize splitN p = N at *
  subst hpp
  clear hp
  have HG : Hid (Good N) := g
  have hfew := g.few
  rw [upL_len] at hm
  obtain ⟨n, hn⟩ : ∃ n, N.length = n := ⟨_, rfl⟩
  have HN : Hid (N.length = n) := hn
  rw [hn] at hm hfew ⊢
  have HM : Hid (n + 1 = m) := hm
  clear g hn hm
  go_enter Tryz.func120, Tryz.ntmps120
  go_wp2
  go_loopg [0, 3] n (fun g s v wr => ∃ (k : Nat) (fa : Option Addr) (fc : Nat) (gg : Option Nat), k + g = n ∧ s = .string (pathT (N.take (N.length - k))) ∧ v = .slice fa (k + 1) fc ∧ Cel (fun k => w.heap.size ≤ k) wr 1 (.slice fa (k + 1) fc) (k + 1) (rowC strC (upL N (k + 1))) gg ∧ Below w.heap.size w wr)
  case atStart =>
    refine ⟨0, _, _, some w.heap.size, by omega, ?_, rfl, ?_, bel_al _ _⟩
    · rw [Nat.sub_zero, List.take_length]
    · have e : upL N (0 + 1) = [pathT N] := by rw [upL_succ, Nat.sub_zero, List.take_length]; rfl
      rw [e]
      exact cel_new1 w _ _
  case round =>
    obtain ⟨k, fa, fc, gg, hk, rfl, rfl, hC, hb⟩ := hrel
    have HB : Hid (Below w.heap.size w wr) := hb
    have HC : Hid (Cel (fun k => w.heap.size ≤ k) wr 1 (.slice fa (k + 1) fc) (k + 1) (rowC strC (upL N (k + 1))) gg) := hC
    have hsm : (pathT (N.take (N.length - k))).size ≤ maxLen := by
      have := pathT_small (good_take HG.out (N.length - k))
      unfold maxLen; omega
    have HSM : Hid ((pathT (N.take (N.length - k))).size ≤ maxLen) := hsm
    clear hsm hb hC
    by_cases hlt : k < n
    · obtain ⟨nm, hnm⟩ := up_parent HG.out (k := k) (m := n - k - 1) (by have := HN.out; omega)
      have HP : Hid (parentX (pathT (N.take (N.length - k))) = (pathT (N.take (N.length - (k + 1))), nm, 0)) := hnm
      have HU : Hid (upL N (k + 1 + 1) = upL N (k + 1) ++ [pathT (N.take (N.length - (k + 1)))]) := upL_succ N (k + 1)
      clear hnm
      generalize pathT (N.take (N.length - k)) = P at *
      obtain ⟨D, hD⟩ : ∃ D, pathT (N.take (N.length - (k + 1))) = D := ⟨_, rfl⟩
      have HD : Hid (pathT (N.take (N.length - (k + 1))) = D) := hD
      rw [hD] at HP HU
      clear hD
      have HAP : Hid (∀ w6 o a2 c2 w7 g7, Below wr.heap.size wr w6 → Cel (Grow (fun k => w.heap.size ≤ k) (w6.alloc o) w7) w7 1 (.slice a2 (k + 1 + 1) c2) (k + 1 + 1) (rowC strC (upL N (k + 1)) ++ rowC strC [D]) g7 → Stay (fun k => gg = some k) (w6.alloc o) w7 → Cel (fun k => w.heap.size ≤ k) w7 1 (.slice a2 (k + 1 + 1) c2) (k + 1 + 1) (rowC strC (upL N (k + 1 + 1))) g7 ∧ Below w.heap.size w w7) := fun w6 o a2 c2 w7 g7 B hC hS => by
        have B3 : Below wr.heap.size wr (w6.alloc o) := bel_tr B (bel_al _ _)
        have z0 := HB.out.size
        have z1 := B3.size
        rw [HU.out, rowC_app]
        refine ⟨grow_base (by omega) (fun k hk => hk) hC, (HB.out.trans (B3.mono (by omega))).trans (hS.below (by omega) (fun k hk => ?_))⟩
        have := HC.out; rw [hk] at this; exact this.lt.2
      go_wp2_with (first
        | (go_at_call 84; refine (parent_val P D nm 0 _ HSM.out HP.out).mono ?_; rintro e w6 ⟨rfl, c6⟩; have B6 : Hid (Below wr.heap.size wr w6) := c6; clear c6)
        | (at_builtin; refine wpList_append_cel _ rfl _ _ 32 32 rfl 9 ti _ 1 16 Tryz.underlying32 hi1 hi2 hi3 hi4 rfl (O := fun k => w.heap.size ≤ k) _ (k + 1) _ gg rfl (HC.out.below (bel_tr B6.out (bel_al _ _))) _ 1 (rowC strC [D]) rfl (src_new1 w6 D) (by unfold maxLen; omega) (by omega) ?_; intro a7 c7 w7 g7 hC7 hS7 hf7; have HX : Hid _ := HAP.out w6 _ a7 c7 w7 g7 B6.out hC7 hS7; clear hC7 hS7 hf7))
      go_roundg (n - (k + 1))
      case measure => omega
      case rel => exact ⟨k + 1, a7, c7, g7, by omega, by rw [HD.out], rfl, HX.out.1, HX.out.2⟩
    · obtain rfl : k = n := by omega
      have HP : Hid (parentX (pathT (N.take (N.length - k))) = (⟨#[]⟩, ⟨#[]⟩, 1)) := up_root HN.out.symm
      generalize pathT (N.take (N.length - k)) = P at *
      go_wp2_with (go_at_call 84; refine (parent_val P ⟨#[]⟩ ⟨#[]⟩ 1 _ HSM.out HP.out).mono ?_; rintro e w6 ⟨rfl, c6⟩; have B6 : Hid (Below wr.heap.size wr w6) := c6; clear c6)
      all_goals (first | rw [Exit.noGoto_ret] | skip)
      have hm := HM.out
      subst hm
      go_ret
      exact ⟨⟨⟨fa, fc, gg, rfl, HC.out.below B6.out⟩⟩, HB.out.trans (B6.out.mono HB.out.size)⟩

end Go.Proofs.YticiihjkgiookaaGreat
