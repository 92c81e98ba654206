/- The contract of tabulariumlaw07.spoil. -/
import Derived.Test.YtdcmhbodjmajcaaTreeR9
namespace Go.Proofs.Ytdcmhbodjmajcaa
open Go.RowKit

/-- A list that may be spoiled: its paths and its blocks' numbers can be written. -/
structure Spo (base : Nat) (w : World) (a : Option Addr) (ps : List NR) : Prop where
  row : ∀ i (hi : i < ps.length), ∃ g, a = some ⟨g, 0, none⟩ ∧ base ≤ g ∧ w.cell? ⟨g, i * 5 + 3, none⟩ = some (.slice ps[i].2.a ps[i].2.n ps[i].2.c) ∧ (∃ v, w.cell? ⟨g, i * 5, none⟩ = some v) ∧ w.frozen? ⟨g, i * 5, none⟩ = false
  blk : ∀ x ∈ ps, 0 < x.2.n → ∃ h, x.2.a = some ⟨h, 0, none⟩ ∧ base ≤ h ∧ (∀ g, a = some ⟨g, 0, none⟩ → h ≠ g) ∧ ∀ j, j < x.2.n → (∃ v, w.cell? ⟨h, j * 3, none⟩ = some v) ∧ w.frozen? ⟨h, j * 3, none⟩ = false

theorem Spo.set {base : Nat} {w : World} {a : Option Addr} {ps : List NR} (h : Spo base w a ps) (b o : Nat) (v : Value) (hne : ∀ g, a = some ⟨g, 0, none⟩ → b = g → o % 5 ≠ 3) : Spo base (w.setCell ⟨b, o, none⟩ v) a ps := by
  refine ⟨fun i hi => ?_, fun x hx hp => ?_⟩
  · obtain ⟨g, ha, hb, h1, ⟨u, h2⟩, h3⟩ := h.row i hi
    refine ⟨g, ha, hb, (World.cell?_setCell_other _ _ _ _ (by intro e; injection e with e1 e2; exact hne g ha e1 (by omega))).trans h1, cell?_setCell_some h2, by rw [World.frozen?_setCell]; exact h3⟩
  · obtain ⟨k, ha, hb, hg, h1⟩ := h.blk x hx hp
    refine ⟨k, ha, hb, hg, fun j hj => ?_⟩
    obtain ⟨⟨u, h2⟩, h3⟩ := h1 j hj
    exact ⟨cell?_setCell_some h2, by rw [World.frozen?_setCell]; exact h3⟩

theorem Spo.of {base : Nat} {w : World} {a : Option Addr} {n c : Nat} {ps : List NR} {g : Option Nat} (h : Lot base w a n c ps g) : Spo base w a ps := by
  have hl := h.len
  refine ⟨fun i hi => ?_, fun x hx hp => ?_⟩
  · obtain ⟨b, rfl, rfl, e3⟩ := h.cel.elem wideX hi hl
    have hc := h.cel.cap2.1
    have lv := h.cel.live (i * 5) (by omega)
    exact ⟨b, rfl, h.cel.lt.2, e3 3 _ rfl, ⟨_, e3 0 _ rfl⟩, lv.2⟩
  · obtain ⟨k, ha, hb, h1⟩ := (h.ok x hx).own hp
    refine ⟨k, ha, hb, fun g' hg' e => ?_, fun j hj => ?_⟩
    · subst hg'
      obtain ⟨b, hb2, hg2⟩ := h.cel.at2 (by rw [← hl]; exact List.length_pos_of_mem hx)
      cases hb2
      refine h.ap x hx g' hg2 ?_
      unfold RS.blk
      rw [if_neg (by omega), ha, e]
      rfl
    · obtain ⟨h2, h3⟩ := h1 (j * 3) (by omega)
      exact ⟨Option.isSome_iff_exists.1 h2, h3⟩

theorem bel_setB {base : Nat} {w w2 : World} (h : Below base w w2) (h0 : base ≤ w.heap.size) (b j : Nat) (v : Value) (hb : base ≤ b) : Below base w (w2.setCell ⟨b, j, none⟩ v) :=
  h.trans ((Stay.setCell (O := fun k => k = b) w2 ⟨b, j, none⟩ v rfl).below (Nat.le_trans h0 h.size) (fun k hk => by omega))

set_option maxRecDepth 100000 in
set_option maxHeartbeats 2000000 in
theorem spoil_val {base : Nat} {a : Option Addr} {n c : Nat} {xs : NS} {w : World} (h : LX base w a n c xs) (hB : base ≤ w.heap.size) :
    Calls Try.prog 23 #[.slice a n c] w fun e w' => e = .returned (.tuple #[]) ∧ Below base w w' := by
  obtain ⟨ps, g0, _, hL⟩ := h.ex
  have HPL : Hid (ps.length = n) := hL.len
  have HSP : Hid (Spo base w a ps) := Spo.of hL
  have HBB : Hid (base ≤ w.heap.size) := hB
  have hnm : n ≤ 9223372036854775807 := by
    have := hL.cel.cap2
    unfold maxLen at this
    omega
  have HSN : Hid (∀ x ∈ ps, x.2.n ≤ 9223372036854775807) := fun x hx => by
    have := (hL.ok x hx).ok.bs.lid
    unfold maxLen at this
    omega
  have hst := run_store_str
  clear h hL hB
  go_enter Try.func23, Try.ntmps23
  go_wp2
  go_loopw [2, 3] (fun v1 _ wr => ∃ i : Nat, i ≤ n ∧ v1 = .int .i64 i ∧ Spo base wr a ps ∧ Below base w wr) (fun v1 _ _ => n - (intOf v1).toNat)
  case atStart => exact ⟨0, by omega, rfl, HSP.out, Below.refl _ _⟩
  case round =>
    obtain ⟨i, hi, rfl, hS, hb⟩ := hrel
    rename World => wo
    have HS : Hid (Spo base wo a ps) := hS
    have HB : Hid (Below base w wo) := hb
    by_cases hlt : i < n
    · have hip : i < ps.length := by rw [HPL.out]; exact hlt
      obtain ⟨g, rfl, hbg, _⟩ := hS.row i hip
      have HBG : Hid (base ≤ g) := hbg
      have HRW : Hid (∀ W, Spo base W (some ⟨g, 0, none⟩) ps → W.cell? ⟨g, i * 5 + 3, none⟩ = some (.slice ps[i].2.a ps[i].2.n ps[i].2.c) ∧ (∃ v, W.cell? ⟨g, i * 5, none⟩ = some v) ∧ W.frozen? ⟨g, i * 5, none⟩ = false) := fun W hW => by
        obtain ⟨g', e, _, h1⟩ := hW.row i hip
        cases e
        exact h1
      have HBK : Hid (∀ W, Spo base W (some ⟨g, 0, none⟩) ps → ∀ k, k < ps[i].2.n → ∃ h, ps[i].2.a = some ⟨h, 0, none⟩ ∧ base ≤ h ∧ h ≠ g ∧ (∃ v, W.cell? ⟨h, k * 3, none⟩ = some v) ∧ W.frozen? ⟨h, k * 3, none⟩ = false) := fun W hW k hk => by
        obtain ⟨h, e, hb, hne, h1⟩ := hW.blk ps[i] (List.getElem_mem hip) (by omega)
        exact ⟨h, e, hb, hne g rfl, h1 k hk⟩
      have hsn := HSN.out _ (List.getElem_mem hip)
      clear hS hb hbg
      generalize ps[i].2.a = sa at *
      generalize ps[i].2.n = sn at *
      generalize ps[i].2.c = sc at *
      go_wp2
      go_loopw [3] (fun v2 w2 => ∃ k : Nat, k ≤ sn ∧ v2 = .int .i64 k ∧ Spo base w2 (some ⟨g, 0, none⟩) ps ∧ Below base w w2) (fun v2 _ => sn - (intOf v2).toNat)
      case atStart => exact ⟨0, by omega, rfl, HS.out, HB.out⟩
      case round =>
        obtain ⟨k, hk, rfl, hS2, hb2⟩ := hrel
        have HS2 : Hid _ := hS2
        have HB2 : Hid _ := hb2
        obtain ⟨y3, ⟨v0, y0⟩, yf⟩ := HRW.out wr hS2
        by_cases hk2 : k < sn
        · obtain ⟨b, rfl, hbb, hbg, ⟨u, hu⟩, huf⟩ := HBK.out wr hS2 k hk2
          have HBL : Hid (base ≤ b) := hbb
          have HNE : Hid (b ≠ g) := hbg
          clear hS2 hb2 hbb hbg
          go_wp2
          go_roundw
          case rel => exact ⟨k + 1, by omega, by go_num, HS2.out.set b (k * 3) _ (fun g' e e2 => by cases e; exact absurd e2 HNE.out), bel_setB HB2.out HBB.out b (k * 3) _ HBL.out⟩
          case measure => simp [intOf]; omega
        · obtain rfl : k = sn := by omega
          have hgd : decide ((k : Int) < (k : Int)) = false := decide_eq_false (by omega)
          clear hS2 hb2 hk2
          go_wp2
          go_roundw
          case rel => exact ⟨i + 1, by omega, by go_num, HS2.out.set g (i * 5) _ (fun g' e e2 => by omega), bel_setB HB2.out HBB.out g (i * 5) _ HBG.out⟩
          case measure => simp [intOf]; omega
    · obtain rfl : i = n := by omega
      have hgd : decide ((i : Int) < (i : Int)) = false := decide_eq_false (by omega)
      clear hS hb hlt
      go_wp2
      go_end0
      exact ⟨rfl, HB.out⟩

end Go.Proofs.Ytdcmhbodjmajcaa
