/- The contracts of choose.commonEpoch, commonEntries. -/
import Derived.Test.YtapnjgmihfmapaaChsF2
namespace Go.Proofs.Ytapnjgmihfmapaa.Chs
open Go.RowKit Go.Proofs.Ytapnjgmihfmapaa Go.Proofs.Ytapnjgmihfmapaa.Lgg
set_option linter.unusedVariables false

def optZ (o : Option Int) : Int := o.getD 0

theorem top_yes {xs : List Ls} {N i : Nat} (hi : i < xs.length) (h1 : N ≤ kN (xs.take (i + 1)) xs[i].ep 0) (h2 : ∀ e, topI xs N i = some e → e < xs[i].ep) : topI xs N (i + 1) = some xs[i].ep := by
  conv => lhs; unfold topI
  rw [getD_in hi, if_pos ⟨h1, h2⟩]
theorem top_no1 {xs : List Ls} {N i : Nat} (hi : i < xs.length) (h1 : ¬ N ≤ kN (xs.take (i + 1)) xs[i].ep 0) : topI xs N (i + 1) = topI xs N i := by
  conv => lhs; unfold topI
  rw [getD_in hi, if_neg (fun h => h1 h.1)]
theorem top_no2 {xs : List Ls} {N i : Nat} (hi : i < xs.length) (e : Int) (h1 : topI xs N i = some e) (h2 : ¬ e < xs[i].ep) : topI xs N (i + 1) = topI xs N i := by
  conv => lhs; unfold topI
  rw [getD_in hi, if_neg (fun h => h2 (h.2 e h1))]

set_option maxRecDepth 100000 in
set_option maxHeartbeats 4000000 in
theorem epoch_val {O O2 : Nat → Prop} {w : World} {a : Option Addr} {xs : List Ls} (h : LsAt O O2 w a xs) (n c : Nat) (hn : xs.length = n) (hb : n ≤ 1000000) (N : Nat) (o : Option Int) (ho : topI xs N n = o) :
    Calls Try.prog 19 #[.slice a n c, .int .i64 N] w fun e w' => e = .returned (.tuple #[.int .i64 (optZ o), .bool o.isSome]) ∧ Below w.heap.size w w' := by
  have HL : Hid (Lie lsC O w a xs) := h.row
  have HE : Hid (∀ x ∈ xs, In64 x.ep) := h.eps
  have HN : Hid (xs.length = n) := hn
  have HO : Hid (topI xs N n = o) := ho
  clear h hn ho
  go_enter Try.func19, Try.ntmps19
  go_wp2_with (go_at_call 24; refine (counter_val _).mono ?_; rintro e w1 ⟨⟨T, b, rfl, hT, hTb, hwT, hwb, hH⟩, c1⟩)
  have HT : Hid (T ≠ b) := hTb
  have HWB : Hid (w.heap.size ≤ b) := hwb
  have HH1 : Hid (HeldI w1 b 0 (fun _ => 0)) := hH
  have HT1 : Hid (w1.cell? ⟨T, 0, none⟩ = some (.map (some b))) := hT
  have HC1 : Hid (Below w.heap.size w w1) := c1
  clear hTb hwb hH c1 hwT hT
  go_loopw [4, 5, 8, 12] (fun v4 v5 _ v12 wr => ∃ i : Nat, i ≤ n ∧ v12 = .int .i64 i ∧ v4 = .int .i64 (optZ (topI xs N i)) ∧ v5 = .bool (topI xs N i).isSome ∧ Hid (wr.cell? ⟨T, 0, none⟩ = some (.map (some b)) ∧ HeldI wr b i (fun q => kN (xs.take i) q 0) ∧ Below w.heap.size w wr)) (fun _ _ _ v12 _ => n - (intOf v12).toNat)
  case atStart => exact ⟨0, by omega, rfl, rfl, rfl, ⟨HT1.out, HH1.out.as (fun q => rfl), HC1.out⟩⟩
  case round =>
    obtain ⟨i, hi, rfl, rfl, rfl, hI⟩ := hrel
    have HI : Hid (wr.cell? ⟨T, 0, none⟩ = some (.map (some b)) ∧ HeldI wr b i (fun q => kN (xs.take i) q 0) ∧ Below w.heap.size w wr) := hI
    clear hI
    by_cases hlt : i < n
    · have hix : i < xs.length := by rw [HN.out]; exact hlt
      obtain ⟨b0, off, rfl, hat⟩ := Lie.all wideL (HL.out.below HI.out.2.2) (by omega)
      have e0 : wr.cell? ⟨b0, off + i * 2, none⟩ = some (.int .i64 xs[i].ep) := hat i hix 0 _ rfl
      have e1 : wr.cell? ⟨b0, off + i * 2 + 1, none⟩ = some (.slice xs[i].a xs[i].es.length xs[i].c) := hat i hix 1 _ rfl
      have HEP : Hid (In64 xs[i].ep) := HE.out _ (List.getElem_mem hix)
      obtain ⟨F, hF⟩ : ∃ F, kN (xs.take i) xs[i].ep 0 = F := ⟨_, rfl⟩
      have hFi : F ≤ i := by
        have := kN_le (xs.take i) xs[i].ep 0
        rw [List.length_take] at this; omega
      have hFF : kN (xs.take (i + 1)) xs[i].ep 0 = F + 1 := by rw [kN_succ hix, if_pos ⟨rfl, Nat.zero_le _⟩, hF]
      have HY : Hid (N ≤ F + 1 → (∀ e, topI xs N i = some e → e < xs[i].ep) → topI xs N (i + 1) = some xs[i].ep) := fun h1 h2 => top_yes hix (by rw [hFF]; exact h1) h2
      have HN1 : Hid (¬ N ≤ F + 1 → topI xs N (i + 1) = topI xs N i) := fun h1 => top_no1 hix (by rw [hFF]; exact h1)
      have HN2 : Hid (∀ e, topI xs N i = some e → ¬ e < xs[i].ep → topI xs N (i + 1) = topI xs N i) := fun e h1 h2 => top_no2 hix e h1 h2
      have HS : Hid (∀ q, (if q = xs[i].ep then F + 1 else kN (xs.take i) q 0) = kN (xs.take (i + 1)) q 0) := fun q => by
        rw [kN_succ hix]
        by_cases hq : q = xs[i].ep
        · subst hq; rw [if_pos rfl, if_pos ⟨rfl, Nat.zero_le _⟩, hF]
        · rw [if_neg hq, if_neg (fun h => hq h.1.symm)]; rfl
      have HF : Hid (kN (xs.take i) xs[i].ep 0 = F) := hF
      have CC : Hid (∀ o, Calls Try.prog 26 #[.int .i64 xs[i].ep, .pointer (some ⟨T, 0, none⟩)] (wr.alloc o) fun e w' => e = .returned (.int .i64 ((F : Int) + 1)) ∧ HeldI w' b (i + 1) (fun q => if q = xs[i].ep then F + 1 else kN (xs.take i) q 0) ∧ Stay (fun k => k = b) (wr.alloc o) w') := fun o =>
        count_val xs[i].ep HEP.out (cell_al HI.out.1 o) HT.out (HI.out.2.1.below (bel_al _ _)) (by omega) F HF.out hFi
      have HCL : Hid (∀ o W, HeldI W b (i + 1) (fun q => if q = xs[i].ep then F + 1 else kN (xs.take i) q 0) → Stay (fun k => k = b) (wr.alloc o) W → W.cell? ⟨T, 0, none⟩ = some (.map (some b)) ∧ HeldI W b (i + 1) (fun q => kN (xs.take (i + 1)) q 0) ∧ Below w.heap.size w W) := fun o W hH hS => by
        have hTa := cell_al HI.out.1 o
        refine ⟨(World.cell?_of_block (a := ⟨T, 0, none⟩) (hS.block T (World.block_lt_of_cell? _ _ hTa) HT.out)).trans hTa, hH.as HS.out, ?_⟩
        refine HI.out.2.2.trans (((bel_al wr o).mono HI.out.2.2.size).trans (hS.below ?_ (fun k hk => by rw [hk]; exact HWB.out)))
        simp; have := HI.out.2.2.size; omega
      have hbox : ∀ o W, Stay (fun k => k = b) (wr.alloc o) W → b < wr.heap.size → W.heap[wr.heap.size]? = (wr.alloc o).heap[wr.heap.size]? := fun o W hS hlt => hS.block _ (by simp) (by omega)
      have HBL : Hid (b < wr.heap.size) := HI.out.2.1.lt
      have HBX : Hid (∀ x y t W, Stay (fun k => k = b) (wr.alloc (.cells #[x, y] t)) W → W.cell? ⟨wr.heap.size, 0, none⟩ = some x) := fun x y t W hS => (World.cell?_of_block (a := ⟨wr.heap.size, 0, none⟩) (hbox _ W hS HBL.out)).trans (cell_new wr #[x, y] t 0)
      clear hat hF hFF hbox
      generalize topI xs N i = oo at *
      generalize xs[i] = x at *
      obtain ⟨ex, ax, cx, sx⟩ := x
      simp only at e0 e1 HY HN2 CC HCL
      generalize sx.length = nx at *
      by_cases h1 : N ≤ F + 1
      · have h1b : decide ((F : Int) + 1 ≥ (N : Int)) = true := decide_eq_true (by omega)
        have h1c : decide ((N : Int) ≤ (F : Int) + 1) = true := decide_eq_true (by omega)
        cases oo with
        | none =>
          have HX : Hid _ := HY.out h1 (fun e he => by cases he)
          clear HY HN1 HN2
          simp only [optZ, Option.getD_none, Option.isSome_none]
          go_wp2_with (go_at_call 26; refine (CC.out _).mono ?_; rintro e w2 ⟨rfl, hH2, hS2⟩; have x0 := HBX.out _ _ _ w2 hS2; have H2 : Hid _ := HCL.out _ w2 hH2 hS2; clear hH2 hS2)
          go_roundw
          case rel => exact ⟨i + 1, by omega, by go_num, by rw [HX.out]; rfl, by rw [HX.out]; rfl, H2⟩
          case measure => simp [intOf]; omega
        | some e0' =>
          simp only [optZ, Option.getD_some, Option.isSome_some]
          by_cases h2 : e0' < ex
          · have HX : Hid _ := HY.out h1 (fun e he => by cases he; exact h2)
            clear HY HN1 HN2
            go_wp2_with (go_at_call 26; refine (CC.out _).mono ?_; rintro e w2 ⟨rfl, hH2, hS2⟩; have x0 := HBX.out _ _ _ w2 hS2; have H2 : Hid _ := HCL.out _ w2 hH2 hS2; clear hH2 hS2)
            go_roundw
            case rel => exact ⟨i + 1, by omega, by go_num, by rw [HX.out]; rfl, by rw [HX.out]; rfl, H2⟩
            case measure => simp [intOf]; omega
          · have HX : Hid _ := HN2.out e0' rfl h2
            have h2b : decide (e0' < ex) = false := decide_eq_false h2
            clear HY HN1 HN2
            go_wp2_with (go_at_call 26; refine (CC.out _).mono ?_; rintro e w2 ⟨rfl, hH2, hS2⟩; have x0 := HBX.out _ _ _ w2 hS2; have H2 : Hid _ := HCL.out _ w2 hH2 hS2; clear hH2 hS2)
            go_roundw
            case rel => exact ⟨i + 1, by omega, by go_num, by rw [HX.out]; rfl, by rw [HX.out]; rfl, H2⟩
            case measure => simp [intOf]; omega
      · have h1b : decide ((F : Int) + 1 ≥ (N : Int)) = false := decide_eq_false (by omega)
        have h1c : decide ((N : Int) ≤ (F : Int) + 1) = false := decide_eq_false (by omega)
        have HX : Hid _ := HN1.out h1
        clear HY HN1 HN2
        go_wp2_with (go_at_call 26; refine (CC.out _).mono ?_; rintro e w2 ⟨rfl, hH2, hS2⟩; have x0 := HBX.out _ _ _ w2 hS2; have H2 : Hid _ := HCL.out _ w2 hH2 hS2; clear hH2 hS2)
        go_roundw
        case rel => exact ⟨i + 1, by omega, by go_num, by rw [HX.out], by rw [HX.out], H2⟩
        case measure => simp [intOf]; omega
    · obtain rfl : i = n := by omega
      clear hlt
      rw [HO.out]
      have HI2 : Hid (Below w.heap.size w wr) := HI.out.2.2
      clear HI
      go_wp2
      go_ret2
      exact ⟨rfl, HI2.out⟩

end Go.Proofs.Ytapnjgmihfmapaa.Chs
