/- The contract of tabulariumref04.Crash. -/
import Derived.Test.YtlgfhmedenlbcaaPlayF6
namespace Go.Proofs.Ytlgfhmedenlbcaa
open Go.RowKit

theorem ba_cut (l : List UInt8) (k : Nat) : (ba l).extract 0 k = ba (l.take k) := by
  apply ByteArray.ext
  simp [ba]

theorem crashL_take (ks : List Int) (S : FS) (i : Nat) (h : i < S.length) : crashL ks (S.take (i + 1)) = crashL ks (S.take i) ++ (if cutN S[i].2 (ks.getD i 0) = 0 then [] else [(S[i].1, S[i].2.1.take (cutN S[i].2 (ks.getD i 0)), cutN S[i].2 (ks.getD i 0))]) := by
  rw [List.take_succ_eq_append_getElem h, crashL_snoc]
  have : (S.take i).length = i := by rw [List.length_take]; omega
  rw [this]

theorem crashL_len : ∀ (S : FS) (ks : List Int), (crashL ks S).length ≤ S.length
  | [], ks => by rw [crashL_nil]; exact Nat.le_refl _
  | p :: S, ks => by
    have := crashL_len S ks.tail
    show ((if cutN p.2 (ks.headD 0) = 0 then [] else [_]) ++ crashL ks.tail S).length ≤ S.length + 1
    rw [List.length_append]
    split
    · simp; omega
    · simp; omega

theorem src_oneB (w : World) (b : Nat) (x : Fl) (hb : b = w.heap.size) : Src Try.prog 3 36 (.slice (some ⟨b, 0, none⟩) 1 1) 1 (filC x) (w.alloc (.cells #[.string (ba x.1), .string (ba x.2.1), .int .i64 (x.2.2 : Int)] 62)) := by
  subst hb; exact src_oneF w x

section
variable {O : Nat → Prop} {w : World} {p : Nat} {a : Option Addr} {c : Nat} {g : Option Nat} {ds : DS}

theorem RAt.crashed {room fuse : Int} {down : Bool} {S S' : FS} (h : RAt O w p a c g ⟨room, fuse, down, S⟩) {w1 : World} {la : Option Addr} {lc L : Nat} {lg : Option Nat} (hb : Below w.heap.size w w1) (hn : S'.length = L) (hc : Cel (fun k => w.heap.size ≤ k) w1 3 (.slice la L lc) L (filCs S') lg) :
    (∃ a' c' g', RAt (Grow O w (((w1.setCell ⟨p, 1, none⟩ (.slice la L lc)).setCell ⟨p, 2, none⟩ (.int .i64 0)).setCell ⟨p, 3, none⟩ (.bool false))) (((w1.setCell ⟨p, 1, none⟩ (.slice la L lc)).setCell ⟨p, 2, none⟩ (.int .i64 0)).setCell ⟨p, 3, none⟩ (.bool false)) p a' c' g' ⟨room, 0, false, S'⟩) ∧ Stay O w (((w1.setCell ⟨p, 1, none⟩ (.slice la L lc)).setCell ⟨p, 2, none⟩ (.int .i64 0)).setCell ⟨p, 3, none⟩ (.bool false)) := by
  have hS := (Stay.of_below hb : Stay O w w1).then_same (Stay.setCell w1 ⟨p, 1, none⟩ (.slice la L lc) h.oP)
  have hS2 := (hS.then_same (Stay.setCell _ ⟨p, 2, none⟩ (.int .i64 0) h.oP)).then_same (Stay.setCell _ ⟨p, 3, none⟩ (.bool false) h.oP)
  have h1 := h.setFiles (Stay.of_below hb) hn hc
  have h2 := (h1.setFuse 0).setDown false
  exact ⟨⟨_, _, _, h2.wide (fun k hk => hk.elim .inl (fun e => .inr ⟨e.1, by simpa [World.setCell] using e.2⟩)) (fun k hk => hk.elim (fun e => Nat.lt_of_lt_of_le (h.lt k e) hS2.size) (fun e => e.2))⟩, hS2⟩

set_option maxRecDepth 100000 in
set_option maxHeartbeats 4000000 in
theorem refCrash_val {room fuse : Int} {S : FS} {down : Bool} (h : RAt O w p a c g ⟨room, fuse, down, S⟩) (hf : Fit ⟨room, fuse, down, S⟩) (ka : Option Addr) (kb koff kcap m : Nat) (ks : List Int) (hm : ks.length = m) (hmx : m ≤ maxLen) (hI : Ints w .i64 ka kb koff ks) (hks : ∀ k ∈ ks, -9223372036854775808 ≤ k ∧ k ≤ 9223372036854775807) :
    Calls Try.prog 32 #[.pointer (some ⟨p, 0, none⟩), .slice ka m kcap] w fun e w' => e = .returned (.tuple #[]) ∧ (∃ a' c' g', RAt (Grow O w w') w' p a' c' g' ⟨room, 0, false, crashL ks S⟩) ∧ Stay O w w' := by
  obtain ⟨ti, hi1, hi2, hi3, hi4⟩ := fileRow
  have hS20 : S.length ≤ 20 := hf.most
  have hmx2 : m ≤ 9223372036854775807 := by unfold maxLen at hmx; omega
  have HR : Hid _ := h
  have HF : Hid _ := hf
  have HM : Hid _ := hm
  have HI : Hid _ := hI
  have HK : Hid _ := hks
  have hpw : p < w.heap.size := h.lt p h.oP
  obtain ⟨N, hN⟩ : ∃ N, S.length = N := ⟨_, rfl⟩
  have HN : Hid _ := hN
  rw [hN] at hS20
  clear h hf hm hmx hI hks hN
  go_enter Try.func32, Try.ntmps32
  go_wp2
  go_loopw [4, 5] (fun vo vi wr => ∃ (i : Nat) (oa : Option Addr) (oc L : Nat) (og : Option Nat), i ≤ N ∧ L ≤ i ∧ vi = .int .i64 i ∧ vo = .slice oa L oc ∧ (crashL ks (S.take i)).length = L ∧ Cel (fun k => w.heap.size ≤ k) wr 3 (.slice oa L oc) L (filCs (crashL ks (S.take i))) og ∧ Below w.heap.size w wr) (fun _ vi _ => N - (intOf vi).toNat)
  case atStart => exact ⟨0, none, 0, 0, none, by omega, by omega, rfl, rfl, by simp [crashL_nil], .nil rfl rfl (by simp [crashL_nil, filCs]), Below.refl _ _⟩
  case round =>
    obtain ⟨i, oa, oc, L, og, hin, hLi, rfl, rfl, hLL, hC, hB⟩ := hrel
    have hRr := HR.out.below hB
    have c1 : wr.cell? ⟨p, 1, none⟩ = some (.slice a N c) := by rw [← HN.out]; exact hRr.c1
    have hwr := hB.size
    by_cases hlt : i < N
    · have hiS : i < S.length := by rw [HN.out]; exact hlt
      obtain ⟨k, ha, hg2, r0, r1, r2⟩ := hRr.file hiS
      subst ha hg2
      have hdat := HF.out.data _ (List.getElem_mem hiS)
      have hct := crashL_take ks S i hiS
      obtain ⟨C, hC0⟩ : ∃ C, ks.getD i 0 = C := ⟨_, rfl⟩
      have hCr : -9223372036854775808 ≤ C ∧ C ≤ 9223372036854775807 := by
        rw [← hC0, List.getD_eq_getElem?_getD]
        by_cases him : i < ks.length
        · rw [List.getElem?_eq_getElem him]; exact HK.out _ (List.getElem_mem him)
        · rw [List.getElem?_eq_none (by omega)]; simp
      obtain ⟨hC1, hC2⟩ := hCr
      have hld : (i < m → ka = some ⟨kb, koff, none⟩ ∧ wr.cell? ⟨kb, koff + i, none⟩ = some (.int .i64 C)) ∧ (¬ i < m → C = 0) := by
        refine ⟨fun him => ?_, fun him => ?_⟩
        · have him2 : i < ks.length := by rw [HM.out]; exact him
          refine ⟨HI.out.addr (by omega), ?_⟩
          rw [(HI.out.below hB).cell i him2, ← hC0, List.getD_eq_getElem?_getD, List.getElem?_eq_getElem him2]; rfl
        · rw [← hC0, List.getD_eq_getElem?_getD, List.getElem?_eq_none (by rw [HM.out]; omega)]; rfl
      have HLD : Hid _ := hld
      rw [hC0] at hct
      generalize hx : S[i] = x at *
      obtain ⟨xn, xd, xs⟩ := x
      have r0' : wr.cell? ⟨k, i * 3, none⟩ = some (.string (ba xn)) := r0
      have r1' : wr.cell? ⟨k, i * 3 + 1, none⟩ = some (.string (ba xd)) := r1
      have r2' : wr.cell? ⟨k, i * 3 + 2, none⟩ = some (.int .i64 (xs : Int)) := r2
      have hd1 : xd.length ≤ 400000 := hdat.1
      have hd2 : xs ≤ xd.length := hdat.2
      obtain ⟨D, hD⟩ : ∃ D, xd.length = D := ⟨_, rfl⟩
      have hDz : (ba xd).size = D := by rw [ba_size]; exact hD
      rw [hD] at hd1 hd2
      obtain ⟨kn, hkn⟩ : ∃ kn, keepN C = kn := ⟨_, rfl⟩
      obtain ⟨mm, hmm⟩ : ∃ mm, D - xs = mm := ⟨_, rfl⟩
      have hDm : (D : Int) - (xs : Int) = (mm : Int) := by omega
      obtain ⟨Q, hQ⟩ : ∃ Q, kn % (mm + 1) = Q := ⟨_, rfl⟩
      have hlq : Q < mm + 1 := by rw [← hQ]; exact Nat.mod_lt _ (by omega)
      have hr1 : (kn : Int).tmod ((mm : Int) + 1) = (Q : Int) := by rw [Int.tmod_eq_emod_of_nonneg (by omega), ← hQ]; rfl
      have hr2 : (kn : Int) % ((mm : Int) + 1) = (Q : Int) := by rw [← hQ]; rfl
      obtain ⟨E, hE⟩ : ∃ E, xs + Q = E := ⟨_, rfl⟩
      have hqe : (xs : Int) + (Q : Int) = (E : Int) := by omega
      have hED : E ≤ D := by omega
      have hcut : cutN (xd, xs) C = E := by unfold cutN; simp only; rw [hkn, hD, hmm, hQ, hE]
      have hXz : (ba (xd.take E)).size = E := by rw [ba_size, List.length_take]; omega
      have hex : (ba xd).extract 0 E = ba (xd.take E) := ba_cut xd E
      simp only [hcut] at hct
      have HCT : Hid _ := hct
      have HC : Hid (Cel (fun k => w.heap.size ≤ k) wr 3 (.slice oa L oc) L (filCs (crashL ks (S.take i))) og) := hC
      have HB : Hid _ := hB
      have HLL : Hid _ := hLL
      unfold keepN at hkn
      clear r0 r1 r2 hRr hC hB hdat hct hld hC0 hcut hQ hmm hLL hx
      have hbel : ∀ o, Below wr.heap.size wr (wr.alloc o) := fun o => (Below.refl _ wr).alloc (Nat.le_refl _) o
      have HBC : Hid _ := hbel
      have hst := run_store_str
      clear hbel
      by_cases him : i < m
      · have hl0 := HLD.out.1 him
        obtain ⟨rfl, q3⟩ := hl0
        have q3a := ((HBC.out (.cells #[.string (ba xn), .string (ba xd), .int .i64 (xs : Int)] 62)).cell (p := ⟨kb, koff + i, none⟩) (World.block_lt_of_cell? _ _ q3)).trans q3
        by_cases hneg : C < 0
        · rw [if_pos hneg] at hkn
          have hkk : -(C + 1) = (kn : Int) := by omega
          rcases Nat.eq_zero_or_pos E with hE0 | hE0
          · have hx0 : xs = 0 := by omega
            have hct2 : crashL ks (S.take (i + 1)) = crashL ks (S.take i) := by rw [HCT.out, if_pos hE0, List.append_nil]
            have HCT2 : Hid _ := hct2
            have hE1 : decide ((0 : Int) < (E : Int)) = false := decide_eq_false (by omega)
            have hE1n : decide (0 < E) = false := decide_eq_false (by omega)
            have hE2n : decide (0 < xs) = false := decide_eq_false (by omega)
            have hE2 : decide ((0 : Int) < (xs : Int)) = false := decide_eq_false (by omega)
            clear hct2 hE0 hx0
            go_wp2
            go_roundw
            case rel => exact ⟨i + 1, oa, oc, L, og, by omega, by omega, by go_num, rfl, by rw [HCT2.out]; exact HLL.out, by rw [HCT2.out]; exact HC.out.below (HBC.out _), HB.out.trans ((HBC.out _).mono hwr)⟩
            case measure => simp [intOf]; omega
          · have hct2 : crashL ks (S.take (i + 1)) = crashL ks (S.take i) ++ [(xn, xd.take E, E)] := by rw [HCT.out, if_neg (by omega)]
            have HCT2 : Hid _ := hct2
            have hE1 : decide ((0 : Int) < (E : Int)) = true := decide_eq_true (by omega)
            have hE1n : decide (0 < E) = true := decide_eq_true (by omega)
            clear hct2
            go_wp2_with (at_builtin; refine wpList_append_cel _ rfl _ _ 36 36 rfl 62 ti _ 3 40 Try.underlying36 hi1 hi2 hi3 hi4 rfl (O := fun k => w.heap.size ≤ k) _ L _ og rfl ((HC.out.below (HBC.out _)).below ((Below.refl _ _).alloc (Nat.le_refl _) _)) _ 1 (filC (xn, xd.take E, E)) rfl (src_oneB (wr.alloc (.cells #[.string (ba xn), .string (ba (xd.take E)), .int .i64 (E : Int)] 62)) (wr.heap.size + 1) (xn, xd.take E, E) (by simp)) (by unfold maxLen; omega) (by omega) ?_; intro ea ec we eg hCe hste hfe)
            have hCe' := Cel.lowG (by simp; omega) hCe
            have hbe := hste.below (B := w.heap.size) (by simp; omega) (fun k hk => by have := HC.out; rw [hk] at this; exact this.lt.2)
            rw [← filCs_one, ← filCs_app, ← HCT2.out] at hCe'
            have He : Hid (Cel (fun k => w.heap.size ≤ k) we 3 (.slice ea (L + 1) ec) (L + 1) (filCs (crashL ks (S.take (i + 1)))) eg) := hCe'
            have HBe : Hid (Below w.heap.size w we) := (((HB.out.trans ((HBC.out _).mono hwr))).trans ((Below.refl _ _).alloc (by simp; omega) (.cells #[.string (ba xn), .string (ba (xd.take E)), .int .i64 (E : Int)] 62))).trans hbe
            clear hCe hCe' hbe hste hfe
            go_roundw
            case rel => exact ⟨i + 1, ea, ec, L + 1, eg, by omega, by omega, by go_num, by first | rfl | (congr 1 <;> omega), by rw [HCT2.out, List.length_append, HLL.out]; rfl, He.out, HBe.out⟩
            case measure => simp [intOf]; omega
        · rw [if_neg hneg] at hkn
          have hCk : C = (kn : Int) := by omega
          subst hCk
          rcases Nat.eq_zero_or_pos E with hE0 | hE0
          · have hx0 : xs = 0 := by omega
            have hct2 : crashL ks (S.take (i + 1)) = crashL ks (S.take i) := by rw [HCT.out, if_pos hE0, List.append_nil]
            have HCT2 : Hid _ := hct2
            have hE1 : decide ((0 : Int) < (E : Int)) = false := decide_eq_false (by omega)
            have hE1n : decide (0 < E) = false := decide_eq_false (by omega)
            have hE2n : decide (0 < xs) = false := decide_eq_false (by omega)
            have hE2 : decide ((0 : Int) < (xs : Int)) = false := decide_eq_false (by omega)
            clear hct2 hE0 hx0
            go_wp2
            go_roundw
            case rel => exact ⟨i + 1, oa, oc, L, og, by omega, by omega, by go_num, rfl, by rw [HCT2.out]; exact HLL.out, by rw [HCT2.out]; exact HC.out.below (HBC.out _), HB.out.trans ((HBC.out _).mono hwr)⟩
            case measure => simp [intOf]; omega
          · have hct2 : crashL ks (S.take (i + 1)) = crashL ks (S.take i) ++ [(xn, xd.take E, E)] := by rw [HCT.out, if_neg (by omega)]
            have HCT2 : Hid _ := hct2
            have hE1 : decide ((0 : Int) < (E : Int)) = true := decide_eq_true (by omega)
            have hE1n : decide (0 < E) = true := decide_eq_true (by omega)
            clear hct2
            go_wp2_with (at_builtin; refine wpList_append_cel _ rfl _ _ 36 36 rfl 62 ti _ 3 40 Try.underlying36 hi1 hi2 hi3 hi4 rfl (O := fun k => w.heap.size ≤ k) _ L _ og rfl ((HC.out.below (HBC.out _)).below ((Below.refl _ _).alloc (Nat.le_refl _) _)) _ 1 (filC (xn, xd.take E, E)) rfl (src_oneB (wr.alloc (.cells #[.string (ba xn), .string (ba (xd.take E)), .int .i64 (E : Int)] 62)) (wr.heap.size + 1) (xn, xd.take E, E) (by simp)) (by unfold maxLen; omega) (by omega) ?_; intro ea ec we eg hCe hste hfe)
            have hCe' := Cel.lowG (by simp; omega) hCe
            have hbe := hste.below (B := w.heap.size) (by simp; omega) (fun k hk => by have := HC.out; rw [hk] at this; exact this.lt.2)
            rw [← filCs_one, ← filCs_app, ← HCT2.out] at hCe'
            have He : Hid (Cel (fun k => w.heap.size ≤ k) we 3 (.slice ea (L + 1) ec) (L + 1) (filCs (crashL ks (S.take (i + 1)))) eg) := hCe'
            have HBe : Hid (Below w.heap.size w we) := (((HB.out.trans ((HBC.out _).mono hwr))).trans ((Below.refl _ _).alloc (by simp; omega) (.cells #[.string (ba xn), .string (ba (xd.take E)), .int .i64 (E : Int)] 62))).trans hbe
            clear hCe hCe' hbe hste hfe
            go_roundw
            case rel => exact ⟨i + 1, ea, ec, L + 1, eg, by omega, by omega, by go_num, by first | rfl | (congr 1 <;> omega), by rw [HCT2.out, List.length_append, HLL.out]; rfl, He.out, HBe.out⟩
            case measure => simp [intOf]; omega
      · have hl0 := HLD.out.2 him
        subst hl0
        have hk0 : kn = 0 := by rw [← hkn]; rfl
        subst hk0
        have hQ0 : Q = 0 := by have := hr1; simp at this; omega
        subst hQ0
        rcases Nat.eq_zero_or_pos E with hE0 | hE0
        · have hx0 : xs = 0 := by omega
          have hct2 : crashL ks (S.take (i + 1)) = crashL ks (S.take i) := by rw [HCT.out, if_pos hE0, List.append_nil]
          have HCT2 : Hid _ := hct2
          have hE1 : decide ((0 : Int) < (E : Int)) = false := decide_eq_false (by omega)
          have hE1n : decide (0 < E) = false := decide_eq_false (by omega)
          have hE2n : decide (0 < xs) = false := decide_eq_false (by omega)
          have hE2 : decide ((0 : Int) < (xs : Int)) = false := decide_eq_false (by omega)
          clear hct2 hE0 hx0
          go_wp2
          go_roundw
          case rel => exact ⟨i + 1, oa, oc, L, og, by omega, by omega, by go_num, rfl, by rw [HCT2.out]; exact HLL.out, by rw [HCT2.out]; exact HC.out.below (HBC.out _), HB.out.trans ((HBC.out _).mono hwr)⟩
          case measure => simp [intOf]; omega
        · obtain rfl : E = xs := by omega
          have hct2 : crashL ks (S.take (i + 1)) = crashL ks (S.take i) ++ [(xn, xd.take E, E)] := by rw [HCT.out, if_neg (by omega)]
          have HCT2 : Hid _ := hct2
          have hE1 : decide ((0 : Int) < (E : Int)) = true := decide_eq_true (by omega)
          have hE1n : decide (0 < E) = true := decide_eq_true (by omega)
          clear hct2
          go_wp2_with (at_builtin; refine wpList_append_cel _ rfl _ _ 36 36 rfl 62 ti _ 3 40 Try.underlying36 hi1 hi2 hi3 hi4 rfl (O := fun k => w.heap.size ≤ k) _ L _ og rfl ((HC.out.below (HBC.out _)).below ((Below.refl _ _).alloc (Nat.le_refl _) _)) _ 1 (filC (xn, xd.take E, E)) rfl (src_oneB (wr.alloc (.cells #[.string (ba xn), .string (ba (xd.take E)), .int .i64 (E : Int)] 62)) (wr.heap.size + 1) (xn, xd.take E, E) (by simp)) (by unfold maxLen; omega) (by omega) ?_; intro ea ec we eg hCe hste hfe)
          have hCe' := Cel.lowG (by simp; omega) hCe
          have hbe := hste.below (B := w.heap.size) (by simp; omega) (fun k hk => by have := HC.out; rw [hk] at this; exact this.lt.2)
          rw [← filCs_one, ← filCs_app, ← HCT2.out] at hCe'
          have He : Hid (Cel (fun k => w.heap.size ≤ k) we 3 (.slice ea (L + 1) ec) (L + 1) (filCs (crashL ks (S.take (i + 1)))) eg) := hCe'
          have HBe : Hid (Below w.heap.size w we) := (((HB.out.trans ((HBC.out _).mono hwr))).trans ((Below.refl _ _).alloc (by simp; omega) (.cells #[.string (ba xn), .string (ba (xd.take E)), .int .i64 (E : Int)] 62))).trans hbe
          clear hCe hCe' hbe hste hfe
          go_roundw
          case rel => exact ⟨i + 1, ea, ec, L + 1, eg, by omega, by omega, by go_num, by first | rfl | (congr 1 <;> omega), by rw [HCT2.out, List.length_append, HLL.out]; rfl, He.out, HBe.out⟩
          case measure => simp [intOf]; omega
    · obtain rfl : i = N := by omega
      have htk : S.take i = S := List.take_of_length_le (by rw [HN.out]; omega)
      rw [htk] at hLL hC
      have hfin := HR.out.crashed hB hLL hC
      have f1 := hRr.f1
      have c2 := hRr.c2
      have f2 := hRr.f2
      have c3 := hRr.c3
      have f3 := hRr.f3
      have c2' := cell_setP (k := 1) (v := .slice oa L oc) (show 2 ≠ 1 by decide) c2
      have c3' := cell_setP (k := 2) (v := .int .i64 0) (show 3 ≠ 2 by decide) (cell_setP (k := 1) (v := .slice oa L oc) (show 3 ≠ 1 by decide) c3)
      have HFIN : Hid _ := hfin
      clear hfin hRr hC hLL hlt htk
      go_wp2
      go_end0
      exact ⟨rfl, HFIN.out⟩

end

end Go.Proofs.Ytlgfhmedenlbcaa
