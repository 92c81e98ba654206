/- Part 19 of the proof: LogY3. -/
import Derived.Test.YtefncpgemdgbbaaGreatB12
import Derived.Test.YtefncpgemdgbbaaGreatB18
import Derived.BigRegion
import Derived.Deep.Cut

/- law14.disks: two disks that are the same. -/
namespace Go.Proofs.YtefncpgemdgbbaaGreat.Lgg
open Go.RowKit Go.Proofs.YtefncpgemdgbbaaGreat
set_option linter.unusedVariables false

section
variable {w0 w : World} {pf : Option Nat} {B : Option Obj} {pd px : Nat} {ds : DS}
theorem d_list (h : Half w0 pf B w pd px ds ds) (L : Nat) (hL : (listN ds).length = L) :
    Calls Tryz.prog 44 #[.pointer (some ⟨pd, 0, none⟩)] w fun e w' => ∃ a c b, e = .returned (.slice a L c) ∧ (0 < L → a = some ⟨b, 0, none⟩) ∧ (∀ j (hj : j < ((listN ds).map ba).length), w'.cell? ⟨b, j, none⟩ = some (.string ((listN ds).map ba)[j])) ∧ Below w.heap.size w w' := by
  obtain ⟨O1, O2, h1, ⟨a, c, g, h2⟩, hf, h3, h4, h5, h6, hp⟩ := h.out
  refine (list_val h1).mono fun e w' ⟨v, e1, e2, _, e3⟩ => ?_
  obtain ⟨_, a, c, b, hv, hb, hcell⟩ := own_names e2
  refine ⟨a, c, b, by rw [e1, hv, hL], fun hp => (hb (by omega)).1, fun j hj => ?_, e3⟩
  have hj2 : j < (listN ds).length := by simpa using hj
  rw [hcell j hj2]
  simp [ba]
theorem d_readB (h : Half w0 pf B w pd px ds ds) (s : ByteArray) (hs : s.size ≤ maxLen) (t : ByteArray) (q : Int) (ht : rdT ds s.data.toList = t) (hq : rdE ds s.data.toList = q) :
    Calls Tryz.prog 29 #[.pointer (some ⟨pd, 0, none⟩), .string s] w fun e w' => e = .returned (.tuple #[.string t, .int .i64 q]) ∧ Below w.heap.size w w' := by
  obtain ⟨O1, O2, h1, ⟨a, c, g, h2⟩, hf, h3, h4, h5, h6, hp⟩ := h.out
  exact read_val h1 s hs t q ht hq

set_option maxRecDepth 100000 in
set_option maxHeartbeats 2000000 in
theorem disks_val (h : Half w0 pf B w pd px ds ds) :
    Calls Tryz.prog 19 #[.pointer (some ⟨pd, 0, none⟩), .pointer (some ⟨px, 0, none⟩)] w fun e w' => e = .returned (.bool true) ∧ Below w.heap.size w w' := by
  obtain ⟨L, hL⟩ : ∃ L, (listN ds).length = L := ⟨_, rfl⟩
  obtain ⟨U, hU⟩ : ∃ U, usedN ds = U := ⟨_, rfl⟩
  obtain ⟨N, hN⟩ : ∃ N, (listN ds).map ba = N := ⟨_, rfl⟩
  have hL20 : L ≤ 20 ∧ ∀ s ∈ N, s.size ≤ 30 := by
    rw [← hL, ← hN]
    obtain ⟨O1, O2, h1, _, hf, _⟩ := h.out
    unfold listN
    split
    · simp
    · refine ⟨by rw [List.length_map]; exact hf.most, fun s hs => ?_⟩
      obtain ⟨n, hn, rfl⟩ := List.mem_map.1 hs
      obtain ⟨p, hp, rfl⟩ := List.mem_map.1 hn
      rw [ba_size]; exact (hf.name p hp).2
  have hNL : N.length = L := by rw [← hN, List.length_map]; exact hL
  have CL : Hid (Calls Tryz.prog 44 #[.pointer (some ⟨pd, 0, none⟩)] w fun e w' => ∃ a c b, e = .returned (.slice a L c) ∧ (0 < L → a = some ⟨b, 0, none⟩) ∧ (∀ j (hj : j < N.length), w'.cell? ⟨b, j, none⟩ = some (.string N[j])) ∧ Below w.heap.size w w') := by subst hN; exact d_list h L hL
  have CM : Hid (∀ W, Below w.heap.size w W → Calls Tryz.prog 45 #[.pointer (some ⟨px, 0, none⟩)] W fun e w' => ∃ a c b, e = .returned (.slice a L c) ∧ (0 < L → a = some ⟨b, 0, none⟩) ∧ (∀ j (hj : j < N.length), w'.cell? ⟨b, j, none⟩ = some (.string N[j])) ∧ Below W.heap.size W w') := fun W hb => by subst hN; exact list_ref (h.below hb) L hL
  have CU : Hid (∀ W, Below w.heap.size w W → Calls Tryz.prog 46 #[.pointer (some ⟨pd, 0, none⟩)] W fun e w' => e = .returned (.int .i64 U) ∧ Below W.heap.size W w') := fun W hb => d_used (h.below hb) U hU
  have CX : Hid (∀ W, Below w.heap.size w W → Calls Tryz.prog 47 #[.pointer (some ⟨px, 0, none⟩)] W fun e w' => e = .returned (.int .i64 U) ∧ Below W.heap.size W w') := fun W hb => x_used (h.below hb) U hU
  have CR : Hid (∀ (s : ByteArray) W, s.size ≤ 30 → Below w.heap.size w W → Calls Tryz.prog 29 #[.pointer (some ⟨pd, 0, none⟩), .string s] W fun e w' => e = .returned (.tuple #[.string (rdT ds s.data.toList), .int .i64 (rdE ds s.data.toList)]) ∧ Below W.heap.size W w') := fun s W hs hb => d_readB (h.below hb) s (by unfold maxLen; omega) _ _ rfl rfl
  have CS : Hid (∀ (s : ByteArray) W, Below w.heap.size w W → Calls Tryz.prog 31 #[.pointer (some ⟨px, 0, none⟩), .string s] W fun e w' => e = .returned (.tuple #[.string (rdT ds s.data.toList), .int .i64 (rdE ds s.data.toList)]) ∧ W = w') := fun s W hb => (x_read (h.below hb) s _ _ rfl rfl).mono fun e w' ⟨k1, k2⟩ => ⟨k1, k2.symm⟩
  have HN : Hid (N.length = L ∧ ∀ s ∈ N, s.size ≤ 30) := ⟨hNL, hL20.2⟩
  obtain ⟨hl2, _⟩ := hL20
  clear h hL hU hN hNL
  go_enter Tryz.func19, Tryz.ntmps19
  go_wp2_with fail
  refine CL.out.mono ?_
  rintro e w1 ⟨la, lc, lb, rfl, hla, hlr, b1⟩
  have H1 : Hid ((0 < L → la = some ⟨lb, 0, none⟩) ∧ (∀ j (hj : j < N.length), w1.cell? ⟨lb, j, none⟩ = some (.string N[j])) ∧ Below w.heap.size w w1) := ⟨hla, hlr, b1⟩
  clear hla hlr b1
  go_wp2_with fail
  refine (CM.out _ H1.out.2.2).mono ?_
  rintro e w2 ⟨xa, xc, xb, rfl, hxa, hxr, b2⟩
  have H2 : Hid ((0 < L → la = some ⟨lb, 0, none⟩) ∧ (∀ j (hj : j < N.length), w2.cell? ⟨lb, j, none⟩ = some (.string N[j])) ∧ (0 < L → xa = some ⟨xb, 0, none⟩) ∧ (∀ j (hj : j < N.length), w2.cell? ⟨xb, j, none⟩ = some (.string N[j])) ∧ Below w.heap.size w w2) := ⟨H1.out.1, fun j hj => bel_cell b2 (H1.out.2.1 j hj), hxa, hxr, bel_tr H1.out.2.2 b2⟩
  clear H1 hxa hxr b2
  go_wp2_with (first
    | (go_at_call 46; refine (CU.out _ H2.out.2.2.2.2).mono ?_; rintro e w3 ⟨rfl, b3⟩; have B3 : Hid (Below w2.heap.size w2 w3) := b3; clear b3)
    | (go_at_call 47; refine (CX.out _ (bel_tr H2.out.2.2.2.2 B3.out)).mono ?_; rintro e w4 ⟨rfl, b4⟩; have B4 : Hid (Below w2.heap.size w2 w4) := bel_tr B3.out b4; clear b4))
  have HI : Hid (∀ W, Below w2.heap.size w2 W → (0 < L → la = some ⟨lb, 0, none⟩) ∧ (∀ j (hj : j < N.length), W.cell? ⟨lb, j, none⟩ = some (.string N[j])) ∧ (0 < L → xa = some ⟨xb, 0, none⟩) ∧ (∀ j (hj : j < N.length), W.cell? ⟨xb, j, none⟩ = some (.string N[j])) ∧ Below w.heap.size w W) := fun W hb => ⟨H2.out.1, fun j hj => bel_cell hb (H2.out.2.1 j hj), H2.out.2.2.1, fun j hj => bel_cell hb (H2.out.2.2.2.1 j hj), bel_tr H2.out.2.2.2.2 hb⟩
  clear H2

  go_loopw [7] (fun vi wr => ∃ (k : Nat), k ≤ L ∧ vi = .int .i64 k ∧ Below w2.heap.size w2 wr) (fun vi _ => L - (intOf vi).toNat)
  case atStart => exact ⟨0, by omega, rfl, B4.out⟩
  case round =>
    obtain ⟨k, hk, rfl, hb⟩ := hrel
    obtain ⟨g1, g2, g3, g4, g5⟩ := HI.out wr hb
    by_cases hlt : k < L
    · have hkN : k < N.length := by rw [HN.out.1]; exact hlt
      obtain rfl := g1 (by omega)
      obtain rfl := g3 (by omega)
      have c1 := g2 k hkN
      have c2 := g4 k hkN
      obtain ⟨s, hs⟩ : ∃ s, N[k] = s := ⟨_, rfl⟩
      have hs30 : s.size ≤ 30 := by rw [← hs]; exact HN.out.2 _ (List.getElem_mem hkN)
      rw [hs] at c1 c2
      obtain ⟨t, ht⟩ : ∃ t, rdT ds s.data.toList = t := ⟨_, rfl⟩
      obtain ⟨q, hq⟩ : ∃ q, rdE ds s.data.toList = q := ⟨_, rfl⟩
      have CR2 : Hid (∀ W, Below wr.heap.size wr W → Calls Tryz.prog 29 #[.pointer (some ⟨pd, 0, none⟩), .string s] W fun e w' => e = .returned (.tuple #[.string t, .int .i64 q]) ∧ Below W.heap.size W w') := fun W hW => by rw [← ht, ← hq]; exact CR.out s W hs30 (bel_tr g5 hW)
      have CS2 : Hid (∀ W, Below wr.heap.size wr W → Calls Tryz.prog 31 #[.pointer (some ⟨px, 0, none⟩), .string s] W fun e w' => e = .returned (.tuple #[.string t, .int .i64 q]) ∧ W = w') := fun W hW => by rw [← ht, ← hq]; exact CS.out s W (bel_tr g5 hW)
      have HB : Hid (Below w2.heap.size w2 wr) := hb
      clear g1 g2 g3 g4 g5 hb hs ht hq CR CS CU CX CM CL hkN hs30
      go_wp2_with fail
      refine (CR2.out _ (Below.refl _ _)).mono ?_
      rintro e w5 ⟨rfl, b5⟩
      have x1 := bel_cell b5 c1
      have x2 := bel_cell b5 c2
      have B5 : Hid (Below wr.heap.size wr w5) := b5
      clear b5
      go_wp2_with fail
      refine (CS2.out _ B5.out).mono ?_
      rintro e w6 ⟨rfl, rfl⟩
      go_upto_region 10 with fail
      go_region
      go_wp2
      go_roundw
      case rel => exact ⟨k + 1, by omega, by go_num, (by first | exact bel_tr HB.out B5.out | exact bel_tr HB.out (bel_tr B5.out (below_drewN (Below.refl _ _) _)))⟩
      case measure => simp [intOf]; omega
    · obtain rfl : k = L := by omega
      go_wp2
      go_ret
      exact ⟨rfl, g5⟩
end

end Go.Proofs.YtefncpgemdgbbaaGreat.Lgg
