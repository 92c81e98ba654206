/- The contracts of slices.Concat (three lists), lease.placed, lease.Renew. -/
import Derived.Test.YtflccniidaogiaaLeaseF4
namespace Go.Proofs.Ytflccniidaogiaa.Lea
open Go.RowKit Go.Proofs.Ytflccniidaogiaa

/-- The lists of SS, the first k of them together. -/
def catL (SS : Nat → LS) : Nat → LS
  | 0 => []
  | k + 1 => catL SS k ++ SS k

set_option maxRecDepth 100000 in
set_option maxHeartbeats 1000000 in
theorem concat_any (g : Nat) (A : Nat → Option Addr) (N C : Nat → Nat) (SS : Nat → LS) (w : World)
    (hc : ∀ k, k < 3 → w.cell? ⟨g, k, none⟩ = some (.slice (A k) (N k) (C k))) (hS : ∀ k, k < 3 → LL w (A k) (N k) (C k) (SS k)) (hl : ∀ k, k < 3 → N k ≤ 100) :
    Calls Try.prog 26 #[.slice (some ⟨g, 0, none⟩) 3 3] w fun e w' => LsR1 w.heap.size (catL SS 3) (catL SS 3).length e w' ∧ Below w.heap.size w w' := by
  obtain ⟨ti, hi1, hi2, hi3, hi4⟩ := lsRow
  have HC : Hid (∀ k, k < 3 → w.cell? ⟨g, k, none⟩ = some (.slice (A k) (N k) (C k))) := hc
  have HS : Hid (∀ k, k < 3 → LL w (A k) (N k) (C k) (SS k)) := hS
  have HN : Hid (∀ k, k < 3 → (SS k).length = N k) := fun k hk => (hS k hk).len
  have HL : Hid (∀ k, k < 3 → N k ≤ 100) := hl
  clear hc hS hl
  have HT : Hid (∀ k, k ≤ 3 → (catL SS k).length ≤ 100 * k) := by
    intro k hk
    induction k with
    | zero => simp [catL]
    | succ k ih =>
      have h1 := HN.out k (by omega)
      have h2 := HL.out k (by omega)
      have h3 := ih (by omega)
      rw [catL, List.length_append]; omega
  go_enter Try.func26, Try.ntmps26
  go_wp2
  go_loop [3, 11] (fun s c => ∃ k : Nat, k ≤ 3 ∧ c = .int .i64 k ∧ s = .int .i64 (((catL SS k).length : Nat) : Int)) (fun _ c => 3 - (intOf c).toNat)
  case atStart => exact ⟨0, by omega, rfl, rfl⟩
  case round =>
    obtain ⟨k, hk, rfl, rfl⟩ := hrel
    have ht := HT.out k hk
    by_cases hlt : k < 3
    · have hc := HC.out k hlt
      have hl := HL.out k hlt
      have HE : Hid ((catL SS (k + 1)).length = (catL SS k).length + N k) := by show _ = _; rw [catL, List.length_append, HN.out k hlt]
      generalize (catL SS k).length = T at *
      generalize A k = Ak at *
      generalize N k = Nk at *
      generalize C k = Ck at *
      go_wp2
      go_round
      case rel => exact ⟨k + 1, by omega, by go_num, by rw [HE.out]; go_num⟩
      case measure => simp [intOf]; omega
    · have hk2 : k = 3 := by omega
      subst hk2
      obtain ⟨T, hT⟩ : ∃ T, (catL SS 3).length = T := ⟨_, rfl⟩
      rw [hT] at ht ⊢
      have HTe : Hid ((catL SS 3).length = T) := hT
      clear hT
      go_wp2_with (go_at_call 28; refine (grow_val T _ (by omega)).mono ?_; rintro e w1 ⟨⟨fa0, fc0, g0, rfl, ho0⟩, b1⟩)
      go_loopw [6, 27] (fun v c wr => ∃ (k : Nat) (fa : Option Addr) (fn fc : Nat) (gg : Option Nat), k ≤ 3 ∧ c = .int .i64 k ∧ v = .slice fa fn fc ∧ LO w.heap.size wr fa fn fc (catL SS k) gg ∧ Below w.heap.size w wr) (fun _ c _ => 3 - (intOf c).toNat)
      case atStart => exact ⟨0, fa0, 0, fc0, g0, by omega, rfl, rfl, ho0, b1⟩
      case round =>
        obtain ⟨k, fa, fn, fc, gg, hk, rfl, rfl, hO, hbel⟩ := hrel
        by_cases hlt : k < 3
        · have hc := bel_cell hbel (HC.out k hlt)
          have hl := HL.out k hlt
          have hSl := (HS.out k hlt).below hbel
          have htk := HT.out k (by omega)
          have hfn : fn ≤ 300 := by rw [← hO.len]; omega
          have HSR : Hid (Src Try.prog 2 22 (.slice (A k) (N k) (C k)) (N k) (rowC lsC (SS k)) wr) := hSl.src Try.underlying22
          have HO : Hid (LO w.heap.size wr fa fn fc (catL SS k) gg) := hO
          have HB : Hid (Below w.heap.size w wr) := hbel
          have HNK : Hid ((SS k).length = N k) := HN.out k hlt
          clear hSl hO hbel htk
          generalize A k = Ak at *
          generalize N k = Nk at *
          generalize C k = Ck at *
          go_wp2_with (at_builtin; refine wpList_append_cel _ rfl _ _ 22 22 rfl 41 ti _ 2 16 Try.underlying22 hi1 hi2 hi3 hi4 rfl (O := fun k => w.heap.size ≤ k) _ fn _ gg rfl HO.out.cel _ Nk (rowC lsC (SS k)) rfl HSR.out (by unfold maxLen; omega) (by omega) ?_; intro a2 c2 w2 g2 hC2 hS2 hg2; have A2 : Hid _ := HO.out.app (ys := SS k) HNK.out hC2 HB.out.size; have B2 : Hid _ := HO.out.appBelow hS2 HB.out.size; clear hC2 hS2 hg2)
          go_roundw
          case rel => exact ⟨k + 1, a2, fn + Nk, c2, g2, by omega, by go_num, rfl, A2.out, HB.out.trans B2.out⟩
          case measure => simp [intOf]; omega
        · have hk2 : k = 3 := by omega
          subst hk2
          obtain rfl : fn = T := by rw [← hO.len, HTe.out]
          have HO : Hid _ := hO
          have HB : Hid _ := hbel
          clear hO hbel
          go_wp2
          go_ret
          refine ⟨?_, HB.out⟩
          rw [HTe.out]
          exact ⟨_, _, _, rfl, HO.out⟩

theorem concat_three (g : Nat) (a1 a2 a3 : Option Addr) (n1 n2 n3 c1 c2 c3 : Nat) (s1 s2 s3 : LS) (w : World) (h1 : w.cell? ⟨g, 0, none⟩ = some (.slice a1 n1 c1)) (h2 : w.cell? ⟨g, 1, none⟩ = some (.slice a2 n2 c2)) (h3 : w.cell? ⟨g, 2, none⟩ = some (.slice a3 n3 c3))
    (S1 : LL w a1 n1 c1 s1) (S2 : LL w a2 n2 c2 s2) (S3 : LL w a3 n3 c3 s3) (l1 : n1 ≤ 100) (l2 : n2 ≤ 100) (l3 : n3 ≤ 100) (ys : LS) (hy : s1 ++ s2 ++ s3 = ys) (m : Nat) (hm : ys.length = m) :
    Calls Try.prog 26 #[.slice (some ⟨g, 0, none⟩) 3 3] w fun e w' => LsR1 w.heap.size ys m e w' ∧ Below w.heap.size w w' := by
  have hcat : catL (fun k => if k = 0 then s1 else if k = 1 then s2 else s3) 3 = ys := by rw [← hy]; simp [catL]
  have := concat_any g (fun k => if k = 0 then a1 else if k = 1 then a2 else a3) (fun k => if k = 0 then n1 else if k = 1 then n2 else n3) (fun k => if k = 0 then c1 else if k = 1 then c2 else c3) (fun k => if k = 0 then s1 else if k = 1 then s2 else s3) w ?_ ?_ ?_
  · rw [hcat, hm] at this
    exact this
  · intro k hk
    match k, hk with
    | 0, _ => exact h1
    | 1, _ => exact h2
    | 2, _ => exact h3
  · intro k hk
    match k, hk with
    | 0, _ => exact S1
    | 1, _ => exact S2
    | 2, _ => exact S3
  · intro k hk
    match k, hk with
    | 0, _ => exact l1
    | 1, _ => exact l2
    | 2, _ => exact l3

end Go.Proofs.Ytflccniidaogiaa.Lea
