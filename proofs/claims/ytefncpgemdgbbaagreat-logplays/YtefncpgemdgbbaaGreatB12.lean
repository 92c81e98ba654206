/- Part 12 of the proof: PlayF6, PlayF7, DiskF8, DiskOne, PlayHalf, PlayList, DiskOk, DiskPick. -/
import Derived.Test.YtefncpgemdgbbaaGreatB10
import Derived.Test.YtefncpgemdgbbaaGreatB11

/- The contracts of tabulariumref04.List and tabulariumlaw04.texts. -/
namespace Go.Proofs.YtefncpgemdgbbaaGreat
open Go.RowKit

theorem strRow : ∃ i, Tryz.prog.info? 9 = some i ∧ i.zero = some (.string ⟨#[]⟩) ∧ i.size = 1 ∧ i.bytes = 16 :=
  info_parts (show (Tryz.prog.info? 9).map (fun i => (i.zero, i.size, i.bytes)) = some (some (.string ⟨#[]⟩), 1, 16) by kernel_rfl)

def namCs (S : FS) : List Value := S.map (fun p => .string (ba p.1))
theorem namCs_len (S : FS) : (namCs S).length = S.length := by simp [namCs]

theorem src_oneS (w : World) (s : ByteArray) : Src Tryz.prog 1 73 (.slice (some ⟨w.heap.size, 0, none⟩) 1 1) 1 [.string s] (w.alloc (.cells #[.string s] 9)) :=
  Src.ofSlice _ Tryz.underlying73 ⟨w.heap.size, 0, none⟩ 1 1 [.string s] rfl (fun j u hu => by
    obtain ⟨hj1, hj2⟩ := List.getElem?_eq_some_iff.1 hu
    have : j = 0 := by simpa using hj1
    subst this
    rw [Addr.add_lit, Nat.zero_add, ← hj2]
    exact World.cell?_alloc_new w _ _ 0) (fun u hu => by rw [List.mem_singleton.1 hu]; rfl)

section
variable {O : Nat → Prop} {w : World} {p : Nat} {a : Option Addr} {c : Nat} {g : Option Nat} {ds : DS}

set_option maxRecDepth 100000 in
set_option maxHeartbeats 1000000 in
theorem refList_val {room fuse : Int} {S : FS} {down : Bool} (h : RAt O w p a c g ⟨room, fuse, down, S⟩) (hf : Fit ⟨room, fuse, down, S⟩) (L : Nat) (hL : (if down then [] else S).length = L) :
    Calls Tryz.prog 45 #[.pointer (some ⟨p, 0, none⟩)] w fun e w' => ∃ oa oc og, e = .returned (.slice oa L oc) ∧ Cel (fun k => w.heap.size ≤ k) w' 1 (.slice oa L oc) L (namCs (if down then [] else S)) og ∧ Below w.heap.size w w' := by
  obtain ⟨ti, hi1, hi2, hi3, hi4⟩ := strRow
  have hm : S.length ≤ 20 := hf.most
  have c1 : w.cell? ⟨p, 1, none⟩ = some (.slice a S.length c) := h.c1
  have c3 : w.cell? ⟨p, 3, none⟩ = some (.bool down) := h.c3
  cases down with
  | true =>
    have e0 : 0 = L := hL
    subst e0
    clear h hf hL
    have hz : S.length = 0 ∨ 0 < S.length := by omega
    rcases hz with hz | hz
    · rw [hz] at c1
      go_enter Tryz.func45, Tryz.ntmps45
      go_wp2
      go_loopw [3, 4] (fun vo vi wr => vo = .slice none 0 0 ∧ vi = .int .i64 0 ∧ wr = w) (fun _ vi _ => 1)
      case atStart => exact ⟨rfl, rfl, rfl⟩
      case round =>
        obtain ⟨rfl, rfl, hw⟩ := hrel
        subst hw
        go_wp2
        go_ret
        exact ⟨none, 0, rfl, ⟨none, .nil rfl rfl rfl⟩, Below.refl _ _⟩
    · go_enter Tryz.func45, Tryz.ntmps45
      go_wp2
      go_loopw [3, 4] (fun vo vi wr => vo = .slice none 0 0 ∧ vi = .int .i64 0 ∧ wr = w) (fun _ vi _ => 1)
      case atStart => exact ⟨rfl, rfl, rfl⟩
      case round =>
        obtain ⟨rfl, rfl, hw⟩ := hrel
        subst hw
        have hz2 : decide ((0 : Int) < (S.length : Int)) = true := decide_eq_true (by omega)
        go_wp2
        go_ret
        exact ⟨none, 0, rfl, ⟨none, .nil rfl rfl rfl⟩, Below.refl _ _⟩
  | false =>
    have e0 : S.length = L := hL
    subst e0
    show Calls Tryz.prog 45 #[.pointer (some ⟨p, 0, none⟩)] w fun e w' => ∃ oa oc og, e = .returned (.slice oa S.length oc) ∧ Cel (fun k => w.heap.size ≤ k) w' 1 (.slice oa S.length oc) S.length (namCs S) og ∧ Below w.heap.size w w'
    have HR : Hid _ := h
    obtain ⟨N, hN⟩ : ∃ N, S.length = N := ⟨_, rfl⟩
    have HN : Hid _ := hN
    rw [hN] at hm ⊢
    clear h hf hL hN c1 c3
    go_enter Tryz.func45, Tryz.ntmps45
    go_wp2
    go_loopw [3, 4] (fun vo vi wr => ∃ (i : Nat) (oa : Option Addr) (oc : Nat) (og : Option Nat), i ≤ N ∧ vi = .int .i64 i ∧ vo = .slice oa i oc ∧ Cel (fun k => w.heap.size ≤ k) wr 1 (.slice oa i oc) i (namCs (S.take i)) og ∧ Below w.heap.size w wr) (fun _ vi _ => N - (intOf vi).toNat)
    case atStart => exact ⟨0, none, 0, none, by omega, rfl, rfl, .nil rfl rfl (by simp [namCs]), Below.refl _ _⟩
    case round =>
      obtain ⟨i, oa, oc, og, hin, rfl, rfl, hC, hB⟩ := hrel
      have hRr := HR.out.below hB
      have c1 : wr.cell? ⟨p, 1, none⟩ = some (.slice a N c) := by rw [← HN.out]; exact hRr.c1
      have c3 : wr.cell? ⟨p, 3, none⟩ = some (.bool false) := hRr.c3
      have hwr := hB.size
      by_cases hlt : i < N
      · have hiS : i < S.length := by rw [HN.out]; exact hlt
        obtain ⟨k, ha, hg2, r0, r1, r2⟩ := hRr.file hiS
        subst ha hg2
        have r0' : wr.cell? ⟨k, i * 3, none⟩ = some (.string (ba S[i].1)) := r0
        obtain ⟨s1, hs1⟩ : ∃ s1, ba S[i].1 = s1 := ⟨_, rfl⟩
        have hnc : namCs (S.take (i + 1)) = namCs (S.take i) ++ [.string s1] := by
          rw [List.take_succ_eq_append_getElem hiS, ← hs1]; exact List.map_append
        rw [hs1] at r0'
        have HC : Hid (Cel (fun k => w.heap.size ≤ k) wr 1 (.slice oa i oc) i (namCs (S.take i)) og) := hC
        have HB : Hid _ := hB
        have HNC : Hid _ := hnc
        clear r0 r1 r2 hRr hC hB hnc
        go_wp2_with (at_builtin; refine wpList_append_cel _ rfl _ _ 73 73 rfl 9 ti (.string ⟨#[]⟩) 1 16 Tryz.underlying73 hi1 hi2 hi3 hi4 rfl (O := fun k => w.heap.size ≤ k) _ i _ og rfl (HC.out.below ((Below.refl _ _).alloc (Nat.le_refl _) _)) _ 1 [.string s1] rfl (src_oneS wr s1) (by unfold maxLen; omega) (by omega) ?_; intro a2 cc2 w2 g2 hC2 hst2 hf2)
        have hC2' := Cel.lowG (by simp; omega) hC2
        have hb2 := hst2.below (B := w.heap.size) (by simp; omega) (fun k hk => by have := HC.out; rw [hk] at this; exact this.lt.2)
        rw [← HNC.out] at hC2'
        have H2 : Hid (Cel (fun k => w.heap.size ≤ k) w2 1 (.slice a2 (i + 1) cc2) (i + 1) (namCs (S.take (i + 1))) g2) := hC2'
        have HB2 : Hid (Below w.heap.size w w2) := (HB.out.trans ((Below.refl _ wr).alloc hwr (.cells #[.string s1] 9))).trans hb2
        clear hC2 hC2' hb2 hst2 hf2
        go_roundw
        case rel => exact ⟨i + 1, a2, cc2, g2, by omega, by go_num, by first | rfl | (congr 1 <;> omega), H2.out, HB2.out⟩
        case measure => simp [intOf]; omega
      · obtain rfl : i = N := by omega
        have HC : Hid (Cel (fun k => w.heap.size ≤ k) wr 1 (.slice oa i oc) i (namCs S) og) := by rwa [List.take_of_length_le (by rw [HN.out]; omega)] at hC
        have hgd : decide ((i : Int) < (i : Int)) = false := decide_eq_false (by omega)
        clear hC hRr hlt
        go_wp2
        go_ret
        exact ⟨oa, oc, og, rfl, HC.out, hB⟩

end

end Go.Proofs.YtefncpgemdgbbaaGreat

/- The contract of tabulariumref04.Crash. -/
namespace Go.Proofs.YtefncpgemdgbbaaGreat
open Go.RowKit

theorem ba_cut (l : List UInt8) (k : Nat) : (ba l).extract 0 k = ba (l.take k) := by
  apply ByteArray.ext
  simp [ba]

theorem crashL_take (ks : List Int) (S : FS) (i : Nat) (h : i < S.length) : crashL ks (S.take (i + 1)) = crashL ks (S.take i) ++ (if cutN S[i].2 (ks.getD i 0) = 0 then [] else [(S[i].1, S[i].2.1.take (cutN S[i].2 (ks.getD i 0)), cutN S[i].2 (ks.getD i 0))]) := by
  rw [List.take_succ_eq_append_getElem h, crashL_snoc]
  have : (S.take i).length = i := by rw [List.length_take]; omega
  rw [this]

theorem crashL_len : ∀ (S : FS) (ks : List Int), (crashL ks S).length ≤ S.length
  | [], ks => by rw [crashL_nil]; exact Nat.le_refl _
  | p :: S, ks => by
    have := crashL_len S ks.tail
    show ((if cutN p.2 (ks.headD 0) = 0 then [] else [_]) ++ crashL ks.tail S).length ≤ S.length + 1
    rw [List.length_append]
    split
    · simp; omega
    · simp; omega

theorem src_oneB (w : World) (b : Nat) (x : Fl) (hb : b = w.heap.size) : Src Tryz.prog 3 55 (.slice (some ⟨b, 0, none⟩) 1 1) 1 (filC x) (w.alloc (.cells #[.string (ba x.1), .string (ba x.2.1), .int .i64 (x.2.2 : Int)] 80)) := by
  subst hb; exact src_oneF w x

section
variable {O : Nat → Prop} {w : World} {p : Nat} {a : Option Addr} {c : Nat} {g : Option Nat} {ds : DS}

theorem RAt.crashed {room fuse : Int} {down : Bool} {S S' : FS} (h : RAt O w p a c g ⟨room, fuse, down, S⟩) {w1 : World} {la : Option Addr} {lc L : Nat} {lg : Option Nat} (hb : Below w.heap.size w w1) (hn : S'.length = L) (hc : Cel (fun k => w.heap.size ≤ k) w1 3 (.slice la L lc) L (filCs S') lg) :
    (∃ a' c' g', RAt (Grow O w (((w1.setCell ⟨p, 1, none⟩ (.slice la L lc)).setCell ⟨p, 2, none⟩ (.int .i64 0)).setCell ⟨p, 3, none⟩ (.bool false))) (((w1.setCell ⟨p, 1, none⟩ (.slice la L lc)).setCell ⟨p, 2, none⟩ (.int .i64 0)).setCell ⟨p, 3, none⟩ (.bool false)) p a' c' g' ⟨room, 0, false, S'⟩) ∧ Stay O w (((w1.setCell ⟨p, 1, none⟩ (.slice la L lc)).setCell ⟨p, 2, none⟩ (.int .i64 0)).setCell ⟨p, 3, none⟩ (.bool false)) := by
  have hS := (Stay.of_below hb : Stay O w w1).then_same (Stay.setCell w1 ⟨p, 1, none⟩ (.slice la L lc) h.oP)
  have hS2 := (hS.then_same (Stay.setCell _ ⟨p, 2, none⟩ (.int .i64 0) h.oP)).then_same (Stay.setCell _ ⟨p, 3, none⟩ (.bool false) h.oP)
  have h1 := h.setFiles (Stay.of_below hb) hn hc
  have h2 := (h1.setFuse 0).setDown false
  exact ⟨⟨_, _, _, h2.wide (fun k hk => hk.elim .inl (fun e => .inr ⟨e.1, by simpa [World.setCell] using e.2⟩)) (fun k hk => hk.elim (fun e => Nat.lt_of_lt_of_le (h.lt k e) hS2.size) (fun e => e.2))⟩, hS2⟩

set_option maxRecDepth 100000 in
set_option maxHeartbeats 4000000 in
theorem refCrash_val {room fuse : Int} {S : FS} {down : Bool} (h : RAt O w p a c g ⟨room, fuse, down, S⟩) (hf : Fit ⟨room, fuse, down, S⟩) (ka : Option Addr) (kb koff kcap m : Nat) (ks : List Int) (hm : ks.length = m) (hmx : m ≤ maxLen) (hI : Ints w .i64 ka kb koff ks) (hks : ∀ k ∈ ks, -9223372036854775808 ≤ k ∧ k ≤ 9223372036854775807) :
    Calls Tryz.prog 15 #[.pointer (some ⟨p, 0, none⟩), .slice ka m kcap] w fun e w' => e = .returned (.tuple #[]) ∧ (∃ a' c' g', RAt (Grow O w w') w' p a' c' g' ⟨room, 0, false, crashL ks S⟩) ∧ Stay O w w' := by
  obtain ⟨ti, hi1, hi2, hi3, hi4⟩ := fileRow
  have hS20 : S.length ≤ 20 := hf.most
  have hmx2 : m ≤ 9223372036854775807 := by unfold maxLen at hmx; omega
  have HR : Hid _ := h
  have HF : Hid _ := hf
  have HM : Hid _ := hm
  have HI : Hid _ := hI
  have HK : Hid _ := hks
  have hpw : p < w.heap.size := h.lt p h.oP
  obtain ⟨N, hN⟩ : ∃ N, S.length = N := ⟨_, rfl⟩
  have HN : Hid _ := hN
  rw [hN] at hS20
  clear h hf hm hmx hI hks hN
  go_enter Tryz.func15, Tryz.ntmps15
  go_wp2
  go_loopw [4, 5] (fun vo vi wr => ∃ (i : Nat) (oa : Option Addr) (oc L : Nat) (og : Option Nat), i ≤ N ∧ L ≤ i ∧ vi = .int .i64 i ∧ vo = .slice oa L oc ∧ (crashL ks (S.take i)).length = L ∧ Cel (fun k => w.heap.size ≤ k) wr 3 (.slice oa L oc) L (filCs (crashL ks (S.take i))) og ∧ Below w.heap.size w wr) (fun _ vi _ => N - (intOf vi).toNat)
  case atStart => exact ⟨0, none, 0, 0, none, by omega, by omega, rfl, rfl, by simp [crashL_nil], .nil rfl rfl (by simp [crashL_nil, filCs]), Below.refl _ _⟩
  case round =>
    obtain ⟨i, oa, oc, L, og, hin, hLi, rfl, rfl, hLL, hC, hB⟩ := hrel
    have hRr := HR.out.below hB
    have c1 : wr.cell? ⟨p, 1, none⟩ = some (.slice a N c) := by rw [← HN.out]; exact hRr.c1
    have hwr := hB.size
    by_cases hlt : i < N
    · have hiS : i < S.length := by rw [HN.out]; exact hlt
      obtain ⟨k, ha, hg2, r0, r1, r2⟩ := hRr.file hiS
      subst ha hg2
      have hdat := HF.out.data _ (List.getElem_mem hiS)
      have hct := crashL_take ks S i hiS
      obtain ⟨C, hC0⟩ : ∃ C, ks.getD i 0 = C := ⟨_, rfl⟩
      have hCr : -9223372036854775808 ≤ C ∧ C ≤ 9223372036854775807 := by
        rw [← hC0, List.getD_eq_getElem?_getD]
        by_cases him : i < ks.length
        · rw [List.getElem?_eq_getElem him]; exact HK.out _ (List.getElem_mem him)
        · rw [List.getElem?_eq_none (by omega)]; simp
      obtain ⟨hC1, hC2⟩ := hCr
      have hld : (i < m → ka = some ⟨kb, koff, none⟩ ∧ wr.cell? ⟨kb, koff + i, none⟩ = some (.int .i64 C)) ∧ (¬ i < m → C = 0) := by
        refine ⟨fun him => ?_, fun him => ?_⟩
        · have him2 : i < ks.length := by rw [HM.out]; exact him
          refine ⟨HI.out.addr (by omega), ?_⟩
          rw [(HI.out.below hB).cell i him2, ← hC0, List.getD_eq_getElem?_getD, List.getElem?_eq_getElem him2]; rfl
        · rw [← hC0, List.getD_eq_getElem?_getD, List.getElem?_eq_none (by rw [HM.out]; omega)]; rfl
      have HLD : Hid _ := hld
      rw [hC0] at hct
      generalize hx : S[i] = x at *
      obtain ⟨xn, xd, xs⟩ := x
      have r0' : wr.cell? ⟨k, i * 3, none⟩ = some (.string (ba xn)) := r0
      have r1' : wr.cell? ⟨k, i * 3 + 1, none⟩ = some (.string (ba xd)) := r1
      have r2' : wr.cell? ⟨k, i * 3 + 2, none⟩ = some (.int .i64 (xs : Int)) := r2
      have hd1 : xd.length ≤ 400000 := hdat.1
      have hd2 : xs ≤ xd.length := hdat.2
      obtain ⟨D, hD⟩ : ∃ D, xd.length = D := ⟨_, rfl⟩
      have hDz : (ba xd).size = D := by rw [ba_size]; exact hD
      rw [hD] at hd1 hd2
      obtain ⟨kn, hkn⟩ : ∃ kn, keepN C = kn := ⟨_, rfl⟩
      obtain ⟨mm, hmm⟩ : ∃ mm, D - xs = mm := ⟨_, rfl⟩
      have hDm : (D : Int) - (xs : Int) = (mm : Int) := by omega
      obtain ⟨Q, hQ⟩ : ∃ Q, kn % (mm + 1) = Q := ⟨_, rfl⟩
      have hlq : Q < mm + 1 := by rw [← hQ]; exact Nat.mod_lt _ (by omega)
      have hr1 : (kn : Int).tmod ((mm : Int) + 1) = (Q : Int) := by rw [Int.tmod_eq_emod_of_nonneg (by omega), ← hQ]; rfl
      have hr2 : (kn : Int) % ((mm : Int) + 1) = (Q : Int) := by rw [← hQ]; rfl
      obtain ⟨E, hE⟩ : ∃ E, xs + Q = E := ⟨_, rfl⟩
      have hqe : (xs : Int) + (Q : Int) = (E : Int) := by omega
      have hED : E ≤ D := by omega
      have hcut : cutN (xd, xs) C = E := by unfold cutN; simp only; rw [hkn, hD, hmm, hQ, hE]
      have hXz : (ba (xd.take E)).size = E := by rw [ba_size, List.length_take]; omega
      have hex : (ba xd).extract 0 E = ba (xd.take E) := ba_cut xd E
      simp only [hcut] at hct
      have HCT : Hid _ := hct
      have HC : Hid (Cel (fun k => w.heap.size ≤ k) wr 3 (.slice oa L oc) L (filCs (crashL ks (S.take i))) og) := hC
      have HB : Hid _ := hB
      have HLL : Hid _ := hLL
      unfold keepN at hkn
      clear r0 r1 r2 hRr hC hB hdat hct hld hC0 hcut hQ hmm hLL hx
      have hbel : ∀ o, Below wr.heap.size wr (wr.alloc o) := fun o => (Below.refl _ wr).alloc (Nat.le_refl _) o
      have HBC : Hid _ := hbel
      have hst := run_store_str
      clear hbel
      by_cases him : i < m
      · have hl0 := HLD.out.1 him
        obtain ⟨rfl, q3⟩ := hl0
        have q3a := ((HBC.out (.cells #[.string (ba xn), .string (ba xd), .int .i64 (xs : Int)] 80)).cell (p := ⟨kb, koff + i, none⟩) (World.block_lt_of_cell? _ _ q3)).trans q3
        by_cases hneg : C < 0
        · rw [if_pos hneg] at hkn
          have hkk : -(C + 1) = (kn : Int) := by omega
          rcases Nat.eq_zero_or_pos E with hE0 | hE0
          · have hx0 : xs = 0 := by omega
            have hct2 : crashL ks (S.take (i + 1)) = crashL ks (S.take i) := by rw [HCT.out, if_pos hE0, List.append_nil]
            have HCT2 : Hid _ := hct2
            have hE1 : decide ((0 : Int) < (E : Int)) = false := decide_eq_false (by omega)
            have hE1n : decide (0 < E) = false := decide_eq_false (by omega)
            have hE2n : decide (0 < xs) = false := decide_eq_false (by omega)
            have hE2 : decide ((0 : Int) < (xs : Int)) = false := decide_eq_false (by omega)
            clear hct2 hE0 hx0
            go_wp2
            go_roundw
            case rel => exact ⟨i + 1, oa, oc, L, og, by omega, by omega, by go_num, rfl, by rw [HCT2.out]; exact HLL.out, by rw [HCT2.out]; exact HC.out.below (HBC.out _), HB.out.trans ((HBC.out _).mono hwr)⟩
            case measure => simp [intOf]; omega
          · have hct2 : crashL ks (S.take (i + 1)) = crashL ks (S.take i) ++ [(xn, xd.take E, E)] := by rw [HCT.out, if_neg (by omega)]
            have HCT2 : Hid _ := hct2
            have hE1 : decide ((0 : Int) < (E : Int)) = true := decide_eq_true (by omega)
            have hE1n : decide (0 < E) = true := decide_eq_true (by omega)
            clear hct2
            go_wp2_with (at_builtin; refine wpList_append_cel _ rfl _ _ 55 55 rfl 80 ti _ 3 40 Tryz.underlying55 hi1 hi2 hi3 hi4 rfl (O := fun k => w.heap.size ≤ k) _ L _ og rfl ((HC.out.below (HBC.out _)).below ((Below.refl _ _).alloc (Nat.le_refl _) _)) _ 1 (filC (xn, xd.take E, E)) rfl (src_oneB (wr.alloc (.cells #[.string (ba xn), .string (ba (xd.take E)), .int .i64 (E : Int)] 80)) (wr.heap.size + 1) (xn, xd.take E, E) (by simp)) (by unfold maxLen; omega) (by omega) ?_; intro ea ec we eg hCe hste hfe)
            have hCe' := Cel.lowG (by simp; omega) hCe
            have hbe := hste.below (B := w.heap.size) (by simp; omega) (fun k hk => by have := HC.out; rw [hk] at this; exact this.lt.2)
            rw [← filCs_one, ← filCs_app, ← HCT2.out] at hCe'
            have He : Hid (Cel (fun k => w.heap.size ≤ k) we 3 (.slice ea (L + 1) ec) (L + 1) (filCs (crashL ks (S.take (i + 1)))) eg) := hCe'
            have HBe : Hid (Below w.heap.size w we) := (((HB.out.trans ((HBC.out _).mono hwr))).trans ((Below.refl _ _).alloc (by simp; omega) (.cells #[.string (ba xn), .string (ba (xd.take E)), .int .i64 (E : Int)] 80))).trans hbe
            clear hCe hCe' hbe hste hfe
            go_roundw
            case rel => exact ⟨i + 1, ea, ec, L + 1, eg, by omega, by omega, by go_num, by first | rfl | (congr 1 <;> omega), by rw [HCT2.out, List.length_append, HLL.out]; rfl, He.out, HBe.out⟩
            case measure => simp [intOf]; omega
        · rw [if_neg hneg] at hkn
          have hCk : C = (kn : Int) := by omega
          subst hCk
          rcases Nat.eq_zero_or_pos E with hE0 | hE0
          · have hx0 : xs = 0 := by omega
            have hct2 : crashL ks (S.take (i + 1)) = crashL ks (S.take i) := by rw [HCT.out, if_pos hE0, List.append_nil]
            have HCT2 : Hid _ := hct2
            have hE1 : decide ((0 : Int) < (E : Int)) = false := decide_eq_false (by omega)
            have hE1n : decide (0 < E) = false := decide_eq_false (by omega)
            have hE2n : decide (0 < xs) = false := decide_eq_false (by omega)
            have hE2 : decide ((0 : Int) < (xs : Int)) = false := decide_eq_false (by omega)
            clear hct2 hE0 hx0
            go_wp2
            go_roundw
            case rel => exact ⟨i + 1, oa, oc, L, og, by omega, by omega, by go_num, rfl, by rw [HCT2.out]; exact HLL.out, by rw [HCT2.out]; exact HC.out.below (HBC.out _), HB.out.trans ((HBC.out _).mono hwr)⟩
            case measure => simp [intOf]; omega
          · have hct2 : crashL ks (S.take (i + 1)) = crashL ks (S.take i) ++ [(xn, xd.take E, E)] := by rw [HCT.out, if_neg (by omega)]
            have HCT2 : Hid _ := hct2
            have hE1 : decide ((0 : Int) < (E : Int)) = true := decide_eq_true (by omega)
            have hE1n : decide (0 < E) = true := decide_eq_true (by omega)
            clear hct2
            go_wp2_with (at_builtin; refine wpList_append_cel _ rfl _ _ 55 55 rfl 80 ti _ 3 40 Tryz.underlying55 hi1 hi2 hi3 hi4 rfl (O := fun k => w.heap.size ≤ k) _ L _ og rfl ((HC.out.below (HBC.out _)).below ((Below.refl _ _).alloc (Nat.le_refl _) _)) _ 1 (filC (xn, xd.take E, E)) rfl (src_oneB (wr.alloc (.cells #[.string (ba xn), .string (ba (xd.take E)), .int .i64 (E : Int)] 80)) (wr.heap.size + 1) (xn, xd.take E, E) (by simp)) (by unfold maxLen; omega) (by omega) ?_; intro ea ec we eg hCe hste hfe)
            have hCe' := Cel.lowG (by simp; omega) hCe
            have hbe := hste.below (B := w.heap.size) (by simp; omega) (fun k hk => by have := HC.out; rw [hk] at this; exact this.lt.2)
            rw [← filCs_one, ← filCs_app, ← HCT2.out] at hCe'
            have He : Hid (Cel (fun k => w.heap.size ≤ k) we 3 (.slice ea (L + 1) ec) (L + 1) (filCs (crashL ks (S.take (i + 1)))) eg) := hCe'
            have HBe : Hid (Below w.heap.size w we) := (((HB.out.trans ((HBC.out _).mono hwr))).trans ((Below.refl _ _).alloc (by simp; omega) (.cells #[.string (ba xn), .string (ba (xd.take E)), .int .i64 (E : Int)] 80))).trans hbe
            clear hCe hCe' hbe hste hfe
            go_roundw
            case rel => exact ⟨i + 1, ea, ec, L + 1, eg, by omega, by omega, by go_num, by first | rfl | (congr 1 <;> omega), by rw [HCT2.out, List.length_append, HLL.out]; rfl, He.out, HBe.out⟩
            case measure => simp [intOf]; omega
      · have hl0 := HLD.out.2 him
        subst hl0
        have hk0 : kn = 0 := by rw [← hkn]; rfl
        subst hk0
        have hQ0 : Q = 0 := by have := hr1; simp at this; omega
        subst hQ0
        rcases Nat.eq_zero_or_pos E with hE0 | hE0
        · have hx0 : xs = 0 := by omega
          have hct2 : crashL ks (S.take (i + 1)) = crashL ks (S.take i) := by rw [HCT.out, if_pos hE0, List.append_nil]
          have HCT2 : Hid _ := hct2
          have hE1 : decide ((0 : Int) < (E : Int)) = false := decide_eq_false (by omega)
          have hE1n : decide (0 < E) = false := decide_eq_false (by omega)
          have hE2n : decide (0 < xs) = false := decide_eq_false (by omega)
          have hE2 : decide ((0 : Int) < (xs : Int)) = false := decide_eq_false (by omega)
          clear hct2 hE0 hx0
          go_wp2
          go_roundw
          case rel => exact ⟨i + 1, oa, oc, L, og, by omega, by omega, by go_num, rfl, by rw [HCT2.out]; exact HLL.out, by rw [HCT2.out]; exact HC.out.below (HBC.out _), HB.out.trans ((HBC.out _).mono hwr)⟩
          case measure => simp [intOf]; omega
        · obtain rfl : E = xs := by omega
          have hct2 : crashL ks (S.take (i + 1)) = crashL ks (S.take i) ++ [(xn, xd.take E, E)] := by rw [HCT.out, if_neg (by omega)]
          have HCT2 : Hid _ := hct2
          have hE1 : decide ((0 : Int) < (E : Int)) = true := decide_eq_true (by omega)
          have hE1n : decide (0 < E) = true := decide_eq_true (by omega)
          clear hct2
          go_wp2_with (at_builtin; refine wpList_append_cel _ rfl _ _ 55 55 rfl 80 ti _ 3 40 Tryz.underlying55 hi1 hi2 hi3 hi4 rfl (O := fun k => w.heap.size ≤ k) _ L _ og rfl ((HC.out.below (HBC.out _)).below ((Below.refl _ _).alloc (Nat.le_refl _) _)) _ 1 (filC (xn, xd.take E, E)) rfl (src_oneB (wr.alloc (.cells #[.string (ba xn), .string (ba (xd.take E)), .int .i64 (E : Int)] 80)) (wr.heap.size + 1) (xn, xd.take E, E) (by simp)) (by unfold maxLen; omega) (by omega) ?_; intro ea ec we eg hCe hste hfe)
          have hCe' := Cel.lowG (by simp; omega) hCe
          have hbe := hste.below (B := w.heap.size) (by simp; omega) (fun k hk => by have := HC.out; rw [hk] at this; exact this.lt.2)
          rw [← filCs_one, ← filCs_app, ← HCT2.out] at hCe'
          have He : Hid (Cel (fun k => w.heap.size ≤ k) we 3 (.slice ea (L + 1) ec) (L + 1) (filCs (crashL ks (S.take (i + 1)))) eg) := hCe'
          have HBe : Hid (Below w.heap.size w we) := (((HB.out.trans ((HBC.out _).mono hwr))).trans ((Below.refl _ _).alloc (by simp; omega) (.cells #[.string (ba xn), .string (ba (xd.take E)), .int .i64 (E : Int)] 80))).trans hbe
          clear hCe hCe' hbe hste hfe
          go_roundw
          case rel => exact ⟨i + 1, ea, ec, L + 1, eg, by omega, by omega, by go_num, by first | rfl | (congr 1 <;> omega), by rw [HCT2.out, List.length_append, HLL.out]; rfl, He.out, HBe.out⟩
          case measure => simp [intOf]; omega
    · obtain rfl : i = N := by omega
      have htk : S.take i = S := List.take_of_length_le (by rw [HN.out]; omega)
      rw [htk] at hLL hC
      have hfin := HR.out.crashed hB hLL hC
      have f1 := hRr.f1
      have c2 := hRr.c2
      have f2 := hRr.f2
      have c3 := hRr.c3
      have f3 := hRr.f3
      have c2' := cell_setP (k := 1) (v := .slice oa L oc) (show 2 ≠ 1 by decide) c2
      have c3' := cell_setP (k := 2) (v := .int .i64 0) (show 3 ≠ 2 by decide) (cell_setP (k := 1) (v := .slice oa L oc) (show 3 ≠ 1 by decide) c3)
      have HFIN : Hid _ := hfin
      clear hfin hRr hC hLL hlt htk
      go_wp2
      go_end0
      exact ⟨rfl, HFIN.out⟩

end

end Go.Proofs.YtefncpgemdgbbaaGreat

/- The contract of disk.Crash. -/
namespace Go.Proofs.YtefncpgemdgbbaaGreat
open Go.RowKit

theorem cut_val {O : Nat → Prop} {w0 : World} {a : Option Addr} {c : Nat} {l : List UInt8} {g : Option Nat} (hy : Byt O w0 (.slice a l.length c) l g) (sy : Nat) (k : Int) (w : World) (hL : l.length ≤ 400000) (hs : sy ≤ l.length) (hk : -9223372036854775808 ≤ k ∧ k ≤ 9223372036854775807) (e : Nat) (he : cutN (l, sy) k = e) :
    Calls Tryz.prog 36 #[.agg #[.slice a l.length c, .int .i64 (sy : Int)], .int .i64 k] w fun x w' => x = .returned (.agg #[.slice a e c, .int .i64 (e : Int)]) ∧ Below w.heap.size w w' := by
  cases hy with
  | nil h1 h2 =>
    subst h2
    cases h1
    have : e = 0 := by
      have hs0 : sy = 0 := by simpa using hs
      rw [← he, hs0]; unfold cutN; simp; omega
    subst this
    have hs0 : sy = 0 := by simpa using hs
    subst hs0
    exact cut_nil _ k w hk rfl
  | row g cap h1 h2 h3 h4 h5 h6 h7 =>
    cases h1
    exact cut_row g l.length _ sy e _ k w hL hs h4 h5 hk rfl he

theorem Ints.stay {O : Nat → Prop} {w w' : World} {k : IntKind} {a : Option Addr} {b off : Nat} {zs : List Int} (h : Ints w k a b off zs) (hs : Stay O w w') (hb : 0 < zs.length → ¬ O b) : Ints w' k a b off zs :=
  ⟨h.addr, fun j hj => (World.cell?_of_block (a := ⟨b, off + j, none⟩) (hs.block b (h.lt (by omega)) (hb (by omega)))).trans (h.cell j hj)⟩

theorem below_of_drew {w w' : World} (h : Below w.drew.heap.size w.drew w') : Below w.heap.size w w' := ⟨h.os, h.tape, h.output, h.size, h.block⟩

/-- A row of names. -/
theorem own_names {w : World} {base : Nat} {e : TypeId} {v : Value} {n : Nat} {xs : List (List UInt8)} (h : w.ownsRow base e 1 v n (xs.map encStr)) :
    n = xs.length ∧ ∃ a cap b, v = .slice a xs.length cap ∧ (0 < xs.length → a = some ⟨b, 0, none⟩ ∧ base ≤ b ∧ b < w.heap.size) ∧ ∀ j (hj : j < xs.length), w.cell? ⟨b, j, none⟩ = some (.string ⟨xs[j].toArray⟩) := by
  have hlen := h.1
  simp at hlen
  have hl : n = xs.length := hlen.symm
  subst hl
  refine ⟨rfl, ?_⟩
  rcases h.2 with ⟨rfl, h0⟩ | ⟨g, cap, cur, rfl, hb, hg, _⟩
  · refine ⟨none, 0, 0, by rw [h0], fun hp => by omega, fun j hj => by omega⟩
  · refine ⟨some ⟨g, 0, none⟩, cap, g, rfl, fun _ => ⟨rfl, hb, (Array.getElem?_eq_some_iff.1 hg).1⟩, fun j hj => ?_⟩
    have := h.cells (g := g) rfl j (encStr xs[j]) (by simp [hj])
    rw [Addr.add_lit, Nat.zero_add] at this
    exact this

theorem own_fs {w : World} {base : Nat} {e : TypeId} {v : Value} {n m : Nat} {S : FS} (h : w.ownsRow base e 1 v m ((S.map (·.1)).map encStr)) (hn : S.length = n) :
    ∃ a cap b, v = .slice a n cap ∧ (0 < n → a = some ⟨b, 0, none⟩ ∧ base ≤ b ∧ b < w.heap.size) ∧ ∀ j (hj : j < S.length), w.cell? ⟨b, j, none⟩ = some (.string ⟨S[j].1.toArray⟩) := by
  obtain ⟨h0, a, cap, b, h1, h2, h3⟩ := own_names h
  have hl : (S.map (·.1)).length = n := by rw [List.length_map, hn]
  rw [hl] at h1 h2
  exact ⟨a, cap, b, h1, h2, fun j hj => by have := h3 j (by rw [List.length_map]; exact hj); rwa [List.getElem_map] at this⟩

section
variable {O : Nat → Prop} {w : World} {pd b : Nat} {V : List UInt8 → Value} {B : List UInt8 → Option Nat} {room fuse : Int} {down : Bool} {S : FS}

set_option maxRecDepth 100000 in
set_option maxHeartbeats 2000000 in
theorem crash_da (h : DA O w pd b V B room fuse down S) (ka : Option Addr) (kb koff kcap m n : Nat) (ks : List Int) (hm : ks.length = m) (hn : S.length = n) (hmx : m ≤ maxLen) (hI : Ints w .i64 ka kb koff ks) (hkb : 0 < m → ¬ O kb) (hks : ∀ k ∈ ks, -9223372036854775808 ≤ k ∧ k ≤ 9223372036854775807) :
    Calls Tryz.prog 14 #[.pointer (some ⟨pd, 0, none⟩), .slice ka m kcap] w fun e w' => e = .returned (.tuple #[]) ∧ (∃ V' B', DA O w' pd b V' B' room 0 false (crashL ks S)) ∧ Stay O w w' := by
  have hm63 : m ≤ 9223372036854775807 := by unfold maxLen at hmx; omega
  have hn20 : n ≤ 20 := by have := h.most; omega
  have C1 : Hid _ := fun (_ : Unit) => names_val h
  have HH : Hid (DA O w pd b V B room fuse down S) := h
  have HM : Hid _ := hm
  have HN : Hid _ := hn
  have HI : Hid _ := hI
  have HK : Hid (0 < m → ¬ O kb) := hkb
  have HKS : Hid _ := hks
  clear h hm hn hmx hI hkb hks
  go_enter Tryz.func14, Tryz.ntmps14
  go_wp2_with fail
  refine (C1.out ()).mono ?_
  rintro e w1 ⟨v, rfl, hv, -, b1⟩
  clear C1
  obtain ⟨na, nc, nb, rfl, hna, hnc⟩ := own_fs hv HN.out
  have HC : Hid _ := hnc
  have HA : Hid (0 < n → na = some ⟨nb, 0, none⟩ ∧ w.heap.size ≤ nb ∧ nb < w1.heap.size) := hna
  clear hv hna hnc
  go_wp2
  go_loopw [10] (fun c wr => ∃ (k : Nat) (V' : List UInt8 → Value) (B' : List UInt8 → Option Nat), k ≤ n ∧ c = .int .i64 k ∧ DA O wr pd b V' B' room fuse down (crashTo ks S k) ∧ Stay O w1 wr) (fun c _ => n - (intOf c).toNat)
  case atStart => exact ⟨0, V, B, by omega, rfl, by rw [crashTo_zero]; exact HH.out.below b1, Stay.refl _ _⟩
  case round =>
    obtain ⟨k, V', B', hk, rfl, hD, hS⟩ := hrel
    by_cases hlt : k < n
    · have hkS : k < S.length := by rw [HN.out]; exact hlt
      obtain ⟨rfl, hnb, hnb2⟩ := HA.out (by omega)
      have hnO : ¬ O nb := fun e => by have := HH.out.lt nb e; omega
      have hcell : wr.cell? ⟨nb, k, none⟩ = some (.string ⟨S[k].1.toArray⟩) := (World.cell?_of_block (a := ⟨nb, k, none⟩) (hS.block nb hnb2 hnO)).trans (HC.out k hkS)
      have hsp := crashTo_split ks S k hkS
      have hnx := crashTo_next ks S k hkS
      generalize crashL ks (S.take k) = A at *
      generalize S.drop (k + 1) = R at *
      generalize S[k] = p at *
      obtain ⟨nm, l, sy⟩ := p
      rw [hsp] at hD
      have hrise := hD.rise
      have hf : fget (A ++ (nm, l, sy) :: R) nm = some (l, sy) := fget_mid hrise
      obtain ⟨s, hs⟩ : ∃ s : ByteArray, (⟨nm.toArray⟩ : ByteArray) = s := ⟨_, rfl⟩
      have hsl : s.data.toList = nm := by rw [← hs]
      have hcell2 : wr.cell? ⟨nb, k, none⟩ = some (.string s) := by rw [← hs]; exact hcell
      have hnmO : 1 ≤ nm.length ∧ nm.length ≤ 30 := hD.name _ (fget_mem hf)
      have hsm : s.size ≤ maxLen := by rw [← hs]; show nm.toArray.size ≤ _; rw [List.size_toArray]; unfold maxLen; omega
      have hkey := WideMaps.keyOf_string_mk (P := Tryz.prog) Tryz.underlying9 hsm
      rw [hsl] at hkey
      obtain ⟨a, c, hV, hy⟩ := hD.at hf
      have hat : (dm V' (A ++ (nm, l, sy) :: R)).atKey (.string nm) (.held (.agg #[.slice none 0 0, .int .i64 0])) = .held (.agg #[.slice a l.length c, .int .i64 (sy : Int)]) := by rw [dm_at, hf, hV]; rfl
      have hdat := hD.data _ (fget_mem hf)
      have hl4 : l.length ≤ 400000 := hdat.1
      have hsl4 : sy ≤ l.length := hdat.2
      have c1 := hD.c1
      have hown := hD.own
      obtain ⟨ee, hee⟩ : ∃ ee, cutN (l, sy) (ks.getD k 0) = ee := ⟨_, rfl⟩
      have hee2 := cutN_le (f := (l, sy)) hsl4 (ks.getD k 0)
      rw [hee] at hee2
      have hlk : (Instr.lookup 52 (.map (some b)) (.string s) false).run Tryz.prog wr.drew = .ok (.agg #[.slice a l.length c, .int .i64 (sy : Int)]) wr.drew := by
        obtain ⟨v, ps, h1, h2⟩ := hown.drew.lookup lawK Tryz.underlying52 (zeroF _) (rv_mk _ _ _ _) hkey
        rw [hat] at h2
        rw [← rv_held h2]; exact h1
      have hkv : ∃ kv, ks.getD k 0 = kv ∧ -9223372036854775808 ≤ kv ∧ kv ≤ 9223372036854775807 := by
        refine ⟨_, rfl, ?_⟩
        by_cases hkm : k < ks.length
        · rw [List.getD_eq_getElem?_getD, List.getElem?_eq_getElem hkm]; exact HKS.out _ (List.getElem_mem hkm)
        · rw [List.getD_eq_getElem?_getD, List.getElem?_eq_none (by omega)]; simp
      obtain ⟨kv, hkv, hkv2⟩ := hkv
      rw [hkv] at hee
      have CC : Hid (∀ W, Calls Tryz.prog 36 #[.agg #[.slice a l.length c, .int .i64 (sy : Int)], .int .i64 kv] W fun x w' => x = .returned (.agg #[.slice a ee c, .int .i64 (ee : Int)]) ∧ Below W.heap.size W w') := fun W => cut_val hy sy kv W hl4 hsl4 hkv2 ee hee
      have HD : Hid (DA O wr pd b V' B' room fuse down (A ++ (nm, l, sy) :: R)) := hD
      have HMU : Hid (∀ w2, Below wr.drew.heap.size wr.drew w2 → ∃ W5, (Instr.mapUpdate 52 (.map (some b)) (.string s) (.agg #[.slice a ee c, .int .i64 (ee : Int)])).run Tryz.prog w2 = .ok () W5 ∧ W5.ownsMap Tryz.prog 9 rv b ((A ++ (nm, l, sy) :: R).length + 1) ((dm V' (A ++ (nm, l, sy) :: R)).put (.string nm) (.held (.agg #[.slice a ee c, .int .i64 (ee : Int)]))) ∧ w2.mapTurned W5 b) := fun w2 bw =>
        (hD.below (below_of_drew bw)).own.store lawK Tryz.underlying52 (by have := hD.most; unfold maxLen; omega) hkey (rv_mk a ee c (ee : Int))
      have CP : Hid (∀ w2, Below wr.drew.heap.size wr.drew w2 → w2.cell? ⟨pd, 1, none⟩ = some (.map (some b))) := fun w2 bw => (hD.below (below_of_drew bw)).c1
      have hlt5 : (l.take ee).length = ee := by rw [List.length_take]; have := hee2.2; simp at this; omega
      have hfp : fput (A ++ (nm, l, sy) :: R) nm (l.take ee, ee) = A ++ (nm, l.take ee, ee) :: R := fput_mid hrise
      have RS : Hid (∀ w2 W5, Below wr.drew.heap.size wr.drew w2 → W5.ownsMap Tryz.prog 9 rv b ((A ++ (nm, l, sy) :: R).length + 1) ((dm V' (A ++ (nm, l, sy) :: R)).put (.string nm) (.held (.agg #[.slice a ee c, .int .i64 (ee : Int)]))) → w2.mapTurned W5 b →
          DA O W5 pd b (upd V' nm (.agg #[.slice a ee c, .int .i64 (ee : Int)])) (fun m => if m = nm then B' nm else B' m) room fuse down (A ++ (nm, l.take ee, ee) :: R) ∧ Stay O w1 W5) := fun w2 W5 bw ho5 ht5 => by
        have bw' := below_of_drew bw
        have hD2 := hD.below bw'
        have hmost := hD.most
        have hused := hD.used
        have hput := hD.put (w1 := w2) (w2 := W5) (O1 := O) (n := nm) (sl := .slice a ee c) (l := l.take ee) (s := ee) (g := B' nm) (fun _ e => e) hD2.lt ((hy.stay bw'.size (fun k hk => bw'.block k (by rw [hk] at hy; exact hy.lt.1)) (fun _ e => e)).cut ee (by have := hee2.2; simpa using this))
          (Stay.of_below bw') (hD.fresh (fun k hk => .inl ⟨hk, by rw [hf]; rfl⟩)) ho5 ht5 hnmO ⟨by have := hee2.2; simp at this; omega, by omega⟩ (by rw [hfp]; simpa using hmost)
          (by
            rw [hfp]
            rw [tot_append, tot_cons] at hused ⊢
            simp only [hlt5] at hused ⊢
            have := hee2.2
            simp only at this hused
            omega)
        rw [hfp] at hput
        exact ⟨hput, hS.then_same ((Stay.of_below bw').then_same (Stay.of_grown ht5.grown (fun k e => by cases e; exact hD.oB)))⟩
      have hHF : Hid (fget (A ++ (nm, l.take ee, ee) :: R) nm = some (l.take ee, ee)) := by
        have := rise_fput hrise nm (l.take ee, ee)
        rw [hfp] at this
        exact fget_mid this
      have hHR : Hid (Rise (A ++ (nm, l.take ee, ee) :: R)) := by
        have := rise_fput hrise nm (l.take ee, ee)
        rw [hfp] at this
        exact this
      have HNX : Hid _ := hnx
      have HRI : Hid _ := hrise
      have HY : Hid _ := hy
      have HFF : Hid _ := hf
      have HS : Hid (Stay O w1 wr) := hS
      have HKV : Hid _ := hkv
      have HEE : Hid _ := hee
      clear hD hnx hrise hy hf hS hat hV hdat hsp hcell hs HA HC HH HKS hsl hee hlt5 hfp
      by_cases hkm : k < m
      · have hkm2 : k < ks.length := by rw [HM.out]; exact hkm
        obtain rfl := HI.out.addr (by omega)
        have hkc : wr.cell? ⟨kb, koff + k, none⟩ = some (.int .i64 kv) := by
          have h1 := HI.out.cell k hkm2
          have h2 : ks[k] = kv := by rw [← HKV.out, List.getD_eq_getElem?_getD, List.getElem?_eq_getElem hkm2]; rfl
          rw [h2] at h1
          have hlt2 := HI.out.lt (by omega)
          exact (World.cell?_of_block (a := ⟨kb, koff + k, none⟩) ((HS.out.block kb (Nat.lt_of_lt_of_le hlt2 b1.size) (HK.out (by omega))).trans (b1.block kb hlt2))).trans h1
        clear hnb hnb2 hnO hkS
        go_wp2
        go_region_with (go_at_call 36; refine (CC.out _).mono ?_; rintro x w2 ⟨rfl, bw⟩; obtain ⟨W5, hmu, ho5, ht5⟩ := HMU.out w2 bw; have c12 := CP.out w2 bw)
        all_goals
          obtain ⟨hD5, hS5⟩ := RS.out w2 W5 bw ho5 ht5
          have c15 := hD5.c1
          have hown5 := hD5.own
          have hat5 : (dm (upd V' nm (.agg #[.slice a ee c, .int .i64 (ee : Int)])) (A ++ (nm, l.take ee, ee) :: R)).atKey (.string nm) (.held (.agg #[.slice none 0 0, .int .i64 0])) = .held (.agg #[.slice a ee c, .int .i64 (ee : Int)]) := by rw [dm_at, hHF.out, upd_same]; rfl
          have hfl := fieldF a ee c (ee : Int) W5
          have HD5 : Hid (DA O W5 pd b (upd V' nm (.agg #[.slice a ee c, .int .i64 (ee : Int)])) (fun m => if m = nm then B' nm else B' m) room fuse down (A ++ (nm, l.take ee, ee) :: R)) := hD5
          have HS5 : Hid (Stay O w1 W5) := hS5
          clear hD5 hS5 hmu ho5 ht5 c12 bw HMU CP CC hlk hown
          rcases Nat.eq_zero_or_pos ee with he0 | he0
          · subst he0
            have hfl0 := fieldF a 0 c 0 W5
            go_wp2_with (first
              | (at_lookup; refine wpList_look _ rfl _ _ 52 rfl 9 77 lawK Tryz.underlying52 (zeroF _) (rv_mk _ _ _ _) b _ _ rfl hown5 _ _ rfl hkey _ hat5 ?_)
              | (at_delete; refine wpList_delete_own _ rfl _ _ 52 9 rfl 77 lawK Tryz.underlying52 rv b _ _ rfl hown5 _ _ rfl hkey ?_; intro W6 ho6 ht6))
            go_roundw
            case rel =>
              have hD6 := HD5.out.del ho6 ht6
              rw [fdel_mid hHR.out] at hD6
              have e6 := HNX.out
              simp only [HKV.out, HEE.out, if_true, List.nil_append] at e6
              refine ⟨k + 1, upd V' nm (.agg #[.slice a 0 c, .int .i64 ((0 : Nat) : Int)]), fun m => if m = nm then B' nm else B' m, by omega, by go_num, ?_, HS5.out.then_same (Stay.of_grown ht6.grown (fun k e => by cases e; exact HD5.out.oB))⟩
              rw [e6]; exact hD6
            case measure => simp [intOf]; omega
          · have he1 : ¬ ee = 0 := by omega
            go_wp2_with (at_lookup; refine wpList_look _ rfl _ _ 52 rfl 9 77 lawK Tryz.underlying52 (zeroF _) (rv_mk _ _ _ _) b _ _ rfl hown5 _ _ rfl hkey _ hat5 ?_)
            go_roundw
            case rel =>
              have e6 := HNX.out
              simp only [HKV.out, HEE.out, he1, if_false] at e6
              refine ⟨k + 1, upd V' nm (.agg #[.slice a ee c, .int .i64 (ee : Int)]), fun m => if m = nm then B' nm else B' m, by omega, by go_num, ?_, HS5.out⟩
              rw [e6]; exact HD5.out
            case measure => simp [intOf]; omega
      · have hkz : kv = 0 := by rw [← HKV.out, List.getD_eq_getElem?_getD, List.getElem?_eq_none (by rw [HM.out]; omega)]; rfl
        subst hkz
        clear hnb hnb2 hnO hkS
        go_wp2
        go_region_with (go_at_call 36; refine (CC.out _).mono ?_; rintro x w2 ⟨rfl, bw⟩; obtain ⟨W5, hmu, ho5, ht5⟩ := HMU.out w2 bw; have c12 := CP.out w2 bw)
        all_goals
          obtain ⟨hD5, hS5⟩ := RS.out w2 W5 bw ho5 ht5
          have c15 := hD5.c1
          have hown5 := hD5.own
          have hat5 : (dm (upd V' nm (.agg #[.slice a ee c, .int .i64 (ee : Int)])) (A ++ (nm, l.take ee, ee) :: R)).atKey (.string nm) (.held (.agg #[.slice none 0 0, .int .i64 0])) = .held (.agg #[.slice a ee c, .int .i64 (ee : Int)]) := by rw [dm_at, hHF.out, upd_same]; rfl
          have hfl := fieldF a ee c (ee : Int) W5
          have HD5 : Hid (DA O W5 pd b (upd V' nm (.agg #[.slice a ee c, .int .i64 (ee : Int)])) (fun m => if m = nm then B' nm else B' m) room fuse down (A ++ (nm, l.take ee, ee) :: R)) := hD5
          have HS5 : Hid (Stay O w1 W5) := hS5
          clear hD5 hS5 hmu ho5 ht5 c12 bw HMU CP CC hlk hown
          rcases Nat.eq_zero_or_pos ee with he0 | he0
          · subst he0
            have hfl0 := fieldF a 0 c 0 W5
            go_wp2_with (first
              | (at_lookup; refine wpList_look _ rfl _ _ 52 rfl 9 77 lawK Tryz.underlying52 (zeroF _) (rv_mk _ _ _ _) b _ _ rfl hown5 _ _ rfl hkey _ hat5 ?_)
              | (at_delete; refine wpList_delete_own _ rfl _ _ 52 9 rfl 77 lawK Tryz.underlying52 rv b _ _ rfl hown5 _ _ rfl hkey ?_; intro W6 ho6 ht6))
            go_roundw
            case rel =>
              have hD6 := HD5.out.del ho6 ht6
              rw [fdel_mid hHR.out] at hD6
              have e6 := HNX.out
              simp only [HKV.out, HEE.out, if_true, List.nil_append] at e6
              refine ⟨k + 1, upd V' nm (.agg #[.slice a 0 c, .int .i64 ((0 : Nat) : Int)]), fun m => if m = nm then B' nm else B' m, by omega, by go_num, ?_, HS5.out.then_same (Stay.of_grown ht6.grown (fun k e => by cases e; exact HD5.out.oB))⟩
              rw [e6]; exact hD6
            case measure => simp [intOf]; omega
          · have he1 : ¬ ee = 0 := by omega
            go_wp2_with (at_lookup; refine wpList_look _ rfl _ _ 52 rfl 9 77 lawK Tryz.underlying52 (zeroF _) (rv_mk _ _ _ _) b _ _ rfl hown5 _ _ rfl hkey _ hat5 ?_)
            go_roundw
            case rel =>
              have e6 := HNX.out
              simp only [HKV.out, HEE.out, he1, if_false] at e6
              refine ⟨k + 1, upd V' nm (.agg #[.slice a ee c, .int .i64 (ee : Int)]), fun m => if m = nm then B' nm else B' m, by omega, by go_num, ?_, HS5.out⟩
              rw [e6]; exact HD5.out
            case measure => simp [intOf]; omega
    · obtain rfl : k = n := by omega
      have e6 : crashTo ks S k = crashL ks S := by rw [← HN.out, crashTo_end]
      rw [e6] at hD
      have f2 := hD.f2
      have f3 := hD.f3
      have c2 := hD.c2
      have c3 := hD.c3
      have HD2 : Hid _ := (hD.setFuse 0 (by omega)).setDown false
      have HS2 : Hid _ := (Stay.of_below b1).then_same (hS.then_same ((Stay.setCell (O := O) wr ⟨pd, 2, none⟩ (.int .i64 0) hD.oP).then_same (Stay.setCell (O := O) _ ⟨pd, 3, none⟩ (.bool false) hD.oP)))
      clear hD hS e6 HA HC HH
      go_wp2
      go_end0
      exact ⟨rfl, ⟨V', B', HD2.out⟩, HS2.out⟩

end

end Go.Proofs.YtefncpgemdgbbaaGreat

/- One disk, and two, through a walk. -/
namespace Go.Proofs.YtefncpgemdgbbaaGreat
open Go.RowKit

theorem crash_val {O : Nat → Prop} {w : World} {pd : Nat} {ds : DS} (h : DAt O w pd ds) (ka : Option Addr) (kb koff kcap m : Nat) (ks : List Int) (hm : ks.length = m) (hmx : m ≤ maxLen) (hI : Ints w .i64 ka kb koff ks) (hkb : 0 < m → ¬ O kb) (hks : ∀ k ∈ ks, -9223372036854775808 ≤ k ∧ k ≤ 9223372036854775807) :
    Calls Tryz.prog 14 #[.pointer (some ⟨pd, 0, none⟩), .slice ka m kcap] w fun e w' => e = .returned (.tuple #[]) ∧ DAt O w' pd ⟨ds.room, 0, false, crashL ks ds.S⟩ ∧ Stay O w w' := by
  obtain ⟨b, V, B, h⟩ := h
  exact (crash_da h ka kb koff kcap m _ ks hm rfl hmx hI hkb hks).mono fun e w' ⟨h1, ⟨V', B', h2⟩, h3⟩ => ⟨h1, ⟨b, V', B', h2⟩, h3⟩

theorem DAt.lt {O : Nat → Prop} {w : World} {pd : Nat} {ds : DS} (h : DAt O w pd ds) : ∀ k, O k → k < w.heap.size := by
  obtain ⟨b, V, B, h⟩ := h
  exact DiskAt.lt h
theorem DAt.stay {O O2 : Nat → Prop} {w w' : World} {pd : Nat} {ds : DS} (h : DAt O w pd ds) (hs : Stay O2 w w') (hd : ∀ k, O k → ¬ O2 k) : DAt O w' pd ds := by
  obtain ⟨b, V, B, h⟩ := h
  exact ⟨b, V, B, DiskAt.stay h hs hd⟩
theorem DAt.below {O : Nat → Prop} {w w' : World} {pd : Nat} {ds : DS} (h : DAt O w pd ds) (hs : Below w.heap.size w w') : DAt O w' pd ds := by
  obtain ⟨b, V, B, h⟩ := h
  exact ⟨b, V, B, DiskAt.below h hs⟩
theorem DAt.rise {O : Nat → Prop} {w : World} {pd : Nat} {ds : DS} (h : DAt O w pd ds) : Rise ds.S := by
  obtain ⟨b, V, B, h⟩ := h
  exact DiskAt.rise h

/-- One disk, all that it has made since w0. -/
structure One (w0 w : World) (pd : Nat) (ds : DS) : Prop where
  ex : ∃ O, DAt O w pd ds ∧ (∀ k, O k → w0.heap.size ≤ k) ∧ Below w0.heap.size w0 w

theorem one_grow {w0 w w' : World} {pd : Nat} {ds : DS} {O : Nat → Prop} (hl : ∀ k, O k → w0.heap.size ≤ k) (hb : Below w0.heap.size w0 w) (h : DAt (Grow O w w') w' pd ds) (hs : Stay O w w') : One w0 w' pd ds :=
  ⟨⟨_, h, fun k hk => hk.elim (hl k) (fun e => Nat.le_trans hb.size e.1), hb.trans (hs.below hb.size hl)⟩⟩
theorem one_same {w0 w w' : World} {pd : Nat} {ds : DS} {O : Nat → Prop} (hl : ∀ k, O k → w0.heap.size ≤ k) (hb : Below w0.heap.size w0 w) (h : DAt O w' pd ds) (hs : Stay O w w') : One w0 w' pd ds :=
  ⟨⟨_, h, hl, hb.trans (hs.below hb.size hl)⟩⟩
theorem One.below {w0 w w' : World} {pd : Nat} {ds : DS} (h : One w0 w pd ds) (hs : Below w.heap.size w w') : One w0 w' pd ds := by
  obtain ⟨⟨O, h1, h2, h3⟩⟩ := h
  exact ⟨⟨O, h1.below hs, h2, bel_tr h3 hs⟩⟩
theorem One.bel {w0 w : World} {pd : Nat} {ds : DS} (h : One w0 w pd ds) : Below w0.heap.size w0 w := by
  obtain ⟨⟨O, h1, h2, h3⟩⟩ := h
  exact h3

section
variable {w0 w : World} {pd : Nat} {ds ds' : DS}

theorem one_new (hb : Below w0.heap.size w0 w) (room r : Int) (hr : -9223372036854775808 ≤ room ∧ room < 9223372036854775808) (hm : max room 0 = r) :
    Calls Tryz.prog 5 #[.int .i64 room] w fun e w' => ∃ pd, e = .returned (.pointer (some ⟨pd, 0, none⟩)) ∧ One w0 w' pd ⟨r, 0, false, []⟩ :=
  (new_val room r w hr hm).mono fun _ _ ⟨pd, h1, h2, h3⟩ => ⟨pd, h1, ⟨⟨_, h2, fun _ hk => Nat.le_trans hb.size hk.1, bel_tr hb h3⟩⟩⟩

theorem one_append (h : One w0 w pd ds) (s d : ByteArray) (hs : s.size ≤ maxLen) (hd : d.size ≤ 140737488355328) (q : Int) (hq : begE ds (refA ds s.data.toList d.data.toList) = q)
    (hds : doD ds (refA ds s.data.toList d.data.toList) (fapp s.data.toList d.data.toList) = ds') :
    Calls Tryz.prog 52 #[.pointer (some ⟨pd, 0, none⟩), .string s, .string d] w fun e w' => e = .returned (.int .i64 q) ∧ One w0 w' pd ds' := by
  obtain ⟨⟨O, h1, h2, h3⟩⟩ := h
  exact (append_val h1 s d hs hd q hq hds).mono fun e w' ⟨e1, e2, e3⟩ => ⟨e1, one_grow h2 h3 e2 e3⟩

theorem one_sync (h : One w0 w pd ds) (s : ByteArray) (hs : s.size ≤ maxLen) (q : Int) (hq : begE ds (refM ds.S s.data.toList) = q) (hds : doD ds (refM ds.S s.data.toList) (fsyn s.data.toList) = ds') :
    Calls Tryz.prog 53 #[.pointer (some ⟨pd, 0, none⟩), .string s] w fun e w' => e = .returned (.int .i64 q) ∧ One w0 w' pd ds' := by
  obtain ⟨⟨O, h1, h2, h3⟩⟩ := h
  exact (sync_val h1 s hs q hq hds).mono fun e w' ⟨e1, e2, e3⟩ => ⟨e1, one_grow h2 h3 e2 e3⟩

theorem one_delete (h : One w0 w pd ds) (s : ByteArray) (hs : s.size ≤ maxLen) (q : Int) (hq : begE ds (refM ds.S s.data.toList) = q) (hds : doD ds (refM ds.S s.data.toList) (fun S => fdel S s.data.toList) = ds') :
    Calls Tryz.prog 51 #[.pointer (some ⟨pd, 0, none⟩), .string s] w fun e w' => e = .returned (.int .i64 q) ∧ One w0 w' pd ds' := by
  obtain ⟨⟨O, h1, h2, h3⟩⟩ := h
  exact (delete_val h1 s hs q hq hds).mono fun e w' ⟨e1, e2, e3⟩ => ⟨e1, one_grow h2 h3 e2 e3⟩

theorem one_rename (h : One w0 w pd ds) (s d : ByteArray) (hs : s.size ≤ maxLen) (hd : d.size ≤ maxLen) (q : Int) (hq : begE ds (refR ds.S s.data.toList d.data.toList) = q) (hds : doD ds (refR ds.S s.data.toList d.data.toList) (fren s.data.toList d.data.toList) = ds') :
    Calls Tryz.prog 25 #[.pointer (some ⟨pd, 0, none⟩), .string s, .string d] w fun e w' => e = .returned (.int .i64 q) ∧ One w0 w' pd ds' := by
  obtain ⟨⟨O, h1, h2, h3⟩⟩ := h
  exact (rename_val h1 s d hs hd q hq hds).mono fun e w' ⟨e1, e2, e3⟩ => ⟨e1, one_grow h2 h3 e2 e3⟩

theorem one_fuse (h : One w0 w pd ds) (n f : Int) (hn : -9223372036854775808 ≤ n ∧ n < 9223372036854775808) (hf : max n 0 = f) :
    Calls Tryz.prog 12 #[.pointer (some ⟨pd, 0, none⟩), .int .i64 n] w fun e w' => e = .returned (.tuple #[]) ∧ One w0 w' pd { ds with fuse := f } := by
  obtain ⟨⟨O, h1, h2, h3⟩⟩ := h
  exact (fuse_val h1 n f hn hf).mono fun e w' ⟨e1, e2, e3⟩ => ⟨e1, one_same h2 h3 e2 e3⟩

theorem one_crash (h : One w0 w pd ds) (ka : Option Addr) (kb koff kcap m : Nat) (ks : List Int) (hm : ks.length = m) (hmx : m ≤ maxLen) (hI : Ints w0 .i64 ka kb koff ks) (hks : ∀ k ∈ ks, -9223372036854775808 ≤ k ∧ k ≤ 9223372036854775807) :
    Calls Tryz.prog 14 #[.pointer (some ⟨pd, 0, none⟩), .slice ka m kcap] w fun e w' => e = .returned (.tuple #[]) ∧ One w0 w' pd ⟨ds.room, 0, false, crashL ks ds.S⟩ := by
  obtain ⟨⟨O, h1, h2, h3⟩⟩ := h
  refine (crash_val h1 ka kb koff kcap m ks hm hmx (hI.below h3) (fun hp e => ?_) hks).mono fun e w' ⟨e1, e2, e3⟩ => ⟨e1, one_same h2 h3 e2 e3⟩
  have := hI.lt (by omega)
  have := h2 kb e
  omega

theorem one_read (h : One w0 w pd ds) (s : ByteArray) (hs : s.size ≤ maxLen) (t : ByteArray) (q : Int) (ht : rdT ds s.data.toList = t) (hq : rdE ds s.data.toList = q) :
    Calls Tryz.prog 29 #[.pointer (some ⟨pd, 0, none⟩), .string s] w fun e w' => e = .returned (.tuple #[.string t, .int .i64 q]) ∧ One w0 w' pd ds := by
  obtain ⟨⟨O, h1, h2, h3⟩⟩ := h
  exact (read_val h1 s hs t q ht hq).mono fun e w' ⟨e1, e2⟩ => ⟨e1, ⟨⟨O, h1.below e2, h2, bel_tr h3 e2⟩⟩⟩

theorem one_used (h : One w0 w pd ds) (n : Nat) (hn : usedN ds = n) :
    Calls Tryz.prog 46 #[.pointer (some ⟨pd, 0, none⟩)] w fun e w' => e = .returned (.int .i64 n) ∧ One w0 w' pd ds := by
  obtain ⟨⟨O, h1, h2, h3⟩⟩ := h
  exact (used_val h1 n hn).mono fun e w' ⟨e1, e2⟩ => ⟨e1, ⟨⟨O, h1.below e2, h2, bel_tr h3 e2⟩⟩⟩

/-- Only how many there are. -/
theorem one_list (h : One w0 w pd ds) (n : Nat) (hn : (listN ds).length = n) :
    Calls Tryz.prog 44 #[.pointer (some ⟨pd, 0, none⟩)] w fun e w' => ∃ a c, e = .returned (.slice a n c) ∧ One w0 w' pd ds := by
  obtain ⟨⟨O, h1, h2, h3⟩⟩ := h
  refine (list_val h1).mono fun e w' ⟨v, e1, e2, _, e3⟩ => ?_
  obtain ⟨_, a, c, b, hv, _⟩ := own_names e2
  exact ⟨a, c, by rw [e1, hv, hn], ⟨⟨O, h1.below e3, h2, bel_tr h3 e3⟩⟩⟩

end

/-- Two disks that have nothing in common. -/
def Two (w0 w : World) (p1 : Nat) (d1 : DS) (p2 : Nat) (d2 : DS) : Prop := ∃ O1 O2, DAt O1 w p1 d1 ∧ DAt O2 w p2 d2 ∧ (∀ k, O1 k → ¬ O2 k) ∧ (∀ k, O1 k → w0.heap.size ≤ k) ∧ (∀ k, O2 k → w0.heap.size ≤ k) ∧ Below w0.heap.size w0 w

section
variable {w0 w : World} {p1 p2 : Nat} {d1 d1' d2 : DS}

theorem two_new (h : One w0 w p1 d1) (room r : Int) (hr : -9223372036854775808 ≤ room ∧ room < 9223372036854775808) (hm : max room 0 = r) :
    Calls Tryz.prog 5 #[.int .i64 room] w fun e w' => ∃ pd, e = .returned (.pointer (some ⟨pd, 0, none⟩)) ∧ Two w0 w' p1 d1 pd ⟨r, 0, false, []⟩ := by
  obtain ⟨⟨O, h1, h2, h3⟩⟩ := h
  exact (new_val room r w hr hm).mono fun e w' ⟨pd, e1, e2, e3⟩ => ⟨pd, e1, O, _, h1.below e3, e2, fun k hk e => by have := h1.lt k hk; omega, h2, fun k hk => Nat.le_trans h3.size hk.1, bel_tr h3 e3⟩

theorem two_append (h : Two w0 w p1 d1 p2 d2) (s d : ByteArray) (hs : s.size ≤ maxLen) (hd : d.size ≤ 140737488355328) (q : Int) (hq : begE d1 (refA d1 s.data.toList d.data.toList) = q)
    (hds : doD d1 (refA d1 s.data.toList d.data.toList) (fapp s.data.toList d.data.toList) = d1') :
    Calls Tryz.prog 52 #[.pointer (some ⟨p1, 0, none⟩), .string s, .string d] w fun e w' => e = .returned (.int .i64 q) ∧ Two w0 w' p1 d1' p2 d2 := by
  obtain ⟨O1, O2, h1, h2, hx, l1, l2, hb⟩ := h
  exact (append_val h1 s d hs hd q hq hds).mono fun e w' ⟨e1, e2, e3⟩ => ⟨e1, _, O2, e2, h2.stay e3 (fun k h2k h1k => hx k h1k h2k), fun k hk e => hk.elim (fun hk => hx k hk e) (fun hk => by have := h2.lt k e; omega), fun k hk => hk.elim (l1 k) (fun hk => Nat.le_trans hb.size hk.1), l2, hb.trans (e3.below hb.size l1)⟩

theorem two_sync (h : Two w0 w p1 d1 p2 d2) (s : ByteArray) (hs : s.size ≤ maxLen) (q : Int) (hq : begE d1 (refM d1.S s.data.toList) = q) (hds : doD d1 (refM d1.S s.data.toList) (fsyn s.data.toList) = d1') :
    Calls Tryz.prog 53 #[.pointer (some ⟨p1, 0, none⟩), .string s] w fun e w' => e = .returned (.int .i64 q) ∧ Two w0 w' p1 d1' p2 d2 := by
  obtain ⟨O1, O2, h1, h2, hx, l1, l2, hb⟩ := h
  exact (sync_val h1 s hs q hq hds).mono fun e w' ⟨e1, e2, e3⟩ => ⟨e1, _, O2, e2, h2.stay e3 (fun k h2k h1k => hx k h1k h2k), fun k hk e => hk.elim (fun hk => hx k hk e) (fun hk => by have := h2.lt k e; omega), fun k hk => hk.elim (l1 k) (fun hk => Nat.le_trans hb.size hk.1), l2, hb.trans (e3.below hb.size l1)⟩

/-- A crash; what is kept lies in a new block. -/
theorem two_crash (h : Two w0 w p1 d1 p2 d2) (t : TypeId) (z : Int) (hz : -9223372036854775808 ≤ z ∧ z ≤ 9223372036854775807) :
    Calls Tryz.prog 14 #[.pointer (some ⟨p1, 0, none⟩), .slice (some ⟨w.heap.size, 0, none⟩) 1 1] (w.alloc (.cells #[.int .i64 z] t)) fun e w' => e = .returned (.tuple #[]) ∧ Two w0 w' p1 ⟨d1.room, 0, false, crashL [z] d1.S⟩ p2 d2 := by
  obtain ⟨O1, O2, h1, h2, hx, l1, l2, hb⟩ := h
  have b1 : Below w.heap.size w (w.alloc (.cells #[.int .i64 z] t)) := (Below.refl _ w).alloc (Nat.le_refl _) _
  refine (crash_val (h1.below b1) _ w.heap.size 0 1 1 [z] rfl (by unfold maxLen; omega) ⟨fun _ => rfl, fun j hj => ?_⟩ (fun _ e => by have := h1.lt _ e; omega) (fun k hk => by rw [List.mem_singleton.1 hk]; exact hz)).mono fun e w' ⟨e1, e2, e3⟩ => ⟨e1, O1, O2, e2, (h2.below b1).stay e3 (fun k h2k h1k => hx k h1k h2k), hx, l1, l2, ?_⟩
  · have hj0 : j = 0 := by simpa using hj
    subst hj0
    exact World.cell?_alloc_new w _ t 0
  · have b2 := bel_tr hb b1
    exact b2.trans (e3.below b2.size l1)

theorem two_read (h : Two w0 w p1 d1 p2 d2) (s : ByteArray) (hs : s.size ≤ maxLen) (t : ByteArray) (q : Int) (ht : rdT d1 s.data.toList = t) (hq : rdE d1 s.data.toList = q) :
    Calls Tryz.prog 29 #[.pointer (some ⟨p1, 0, none⟩), .string s] w fun e w' => e = .returned (.tuple #[.string t, .int .i64 q]) ∧ One w0 w' p2 d2 := by
  obtain ⟨O1, O2, h1, h2, hx, l1, l2, hb⟩ := h
  exact (read_val h1 s hs t q ht hq).mono fun e w' ⟨e1, e2⟩ => ⟨e1, ⟨⟨O2, h2.below e2, l2, bel_tr hb e2⟩⟩⟩

end

/-! ### without a fuse -/
theorem begE_plain (room : Int) (S : FS) (e : Int) : begE ⟨room, 0, false, S⟩ e = e := by unfold begE; simp
theorem doD_plain (room : Int) (S : FS) (f : FS → FS) : doD ⟨room, 0, false, S⟩ 0 f = ⟨room, 0, false, f S⟩ := by unfold doD begE begD; simp
theorem doD_no (room : Int) (S : FS) (f : FS → FS) {e : Int} (he : e ≠ 0) : doD ⟨room, 0, false, S⟩ e f = ⟨room, 0, false, S⟩ := by unfold doD begE begD; simp [he]

end Go.Proofs.YtefncpgemdgbbaaGreat

/- The disk and the document's, side by side. -/
namespace Go.Proofs.YtefncpgemdgbbaaGreat
open Go.RowKit

/-- The disk stands at d1, the document's at d2; nothing in common; a block pf, which is no part of them, holds B. -/
structure Half (w0 : World) (pf : Option Nat) (B : Option Obj) (w : World) (pd px : Nat) (d1 d2 : DS) : Prop where
  out : ∃ O1 O2, DAt O1 w pd d1 ∧ (∃ a c g, RAt O2 w px a c g d2) ∧ Fit d2 ∧ (∀ k, O1 k → ¬ O2 k) ∧ (∀ k, O1 k → w0.heap.size ≤ k) ∧ (∀ k, O2 k → w0.heap.size ≤ k) ∧ Below w0.heap.size w0 w ∧ (∀ k, pf = some k → ¬ O1 k ∧ ¬ O2 k ∧ k < w.heap.size ∧ w.heap[k]? = B)

theorem fit_of {O : Nat → Prop} {w : World} {pd : Nat} {ds : DS} (h : DAt O w pd ds) : Fit ds := by
  obtain ⟨b, V, B, h⟩ := h
  exact ⟨h.rise, h.name, h.data, h.most, h.r0, h.fu⟩
theorem lt_of {O : Nat → Prop} {w : World} {pd : Nat} {ds : DS} (h : DAt O w pd ds) : ∀ k, O k → k < w.heap.size := by
  obtain ⟨b, V, B, h⟩ := h
  exact h.lt

section
variable {w0 w : World} {pf : Option Nat} {B : Option Obj} {pd px : Nat} {ds d1 d2 : DS}

theorem Half.bel (h : Half w0 pf B w pd px d1 d2) : Below w0.heap.size w0 w := by
  obtain ⟨O1, O2, _, _, _, _, _, _, h, _⟩ := h.out
  exact h
theorem Half.below {w' : World} (h : Half w0 pf B w pd px d1 d2) (hb : Below w.heap.size w w') : Half w0 pf B w' pd px d1 d2 := by
  obtain ⟨O1, O2, h1, ⟨a, c, g, h2⟩, hf, h3, h4, h5, h6, hp⟩ := h.out
  exact ⟨O1, O2, h1.below hb, ⟨a, c, g, h2.below hb⟩, hf, h3, h4, h5, bel_tr h6 hb, fun k hk => by obtain ⟨n1, n2, n3, n4⟩ := hp k hk; exact ⟨n1, n2, Nat.lt_of_lt_of_le n3 hb.size, (hb.block k n3).trans n4⟩⟩

theorem Half.cell {k : Nat} (h : Half w0 (some k) B w pd px d1 d2) {wa : World} (hB : wa.heap[k]? = B) (j : Nat) : w.cell? ⟨k, j, none⟩ = wa.cell? ⟨k, j, none⟩ := by
  obtain ⟨O1, O2, _, _, _, _, _, _, _, hp⟩ := h.out
  exact World.cell?_of_block (a := ⟨k, j, none⟩) ((hp k rfl).2.2.2.trans hB.symm)

theorem Half.box (h : Half w0 pf B w pd px d1 d2) (o : Obj) : Half w0 (some w.heap.size) ((w.alloc o).heap[w.heap.size]?) (w.alloc o) pd px d1 d2 := by
  obtain ⟨O1, O2, h1, ⟨a, c, g, h2⟩, hf, h3, h4, h5, h6, hp⟩ := h.out
  have hb : Below w.heap.size w (w.alloc o) := (Below.refl _ w).alloc (Nat.le_refl _) o
  exact ⟨O1, O2, h1.below hb, ⟨a, c, g, h2.below hb⟩, hf, h3, h4, h5, bel_tr h6 hb, fun k hk => by
    cases hk
    exact ⟨fun e => by have := lt_of h1 _ e; omega, fun e => by have := h2.lt _ e; omega, by simp, rfl⟩⟩

/-- The disk has done something. -/
theorem half_do {O1 O2 O1' : Nat → Prop} {w' : World} {a : Option Addr} {c : Nat} {g : Option Nat} {d1' : DS} (h2 : RAt O2 w px a c g d2) (hf : Fit d2) (h3 : ∀ k, O1 k → ¬ O2 k) (h4 : ∀ k, O1 k → w0.heap.size ≤ k) (h5 : ∀ k, O2 k → w0.heap.size ≤ k) (h6 : Below w0.heap.size w0 w) (hp : ∀ k, pf = some k → ¬ O1 k ∧ ¬ O2 k ∧ k < w.heap.size ∧ w.heap[k]? = B)
    (e1 : DAt O1' w' pd d1') (hO : ∀ k, O1' k → Grow O1 w w' k) (e2 : Stay O1 w w') : Half w0 pf B w' pd px d1' d2 := by
  refine ⟨O1', O2, e1, ⟨a, c, g, h2.stay e2 (fun k h2k h1k => h3 k h1k h2k)⟩, hf, fun k hk e => ?_, fun k hk => ?_, h5, h6.trans (e2.below h6.size h4), fun k hk => by obtain ⟨n1, n2, n3, n4⟩ := hp k hk; exact ⟨fun e => (hO k e).elim n1 (fun e => by omega), n2, Nat.lt_of_lt_of_le n3 e2.size, (e2.block k n3 n1).trans n4⟩⟩
  · rcases hO k hk with hk | hk
    · exact h3 k hk e
    · have := h2.lt k e; omega
  · rcases hO k hk with hk | hk
    · exact h4 k hk
    · exact Nat.le_trans h6.size hk.1

/-- The document's has done the same. -/
theorem half_same {O1 O2 O2' : Nat → Prop} {w' : World} {a : Option Addr} {c : Nat} {g : Option Nat} (h1 : DAt O1 w pd d1) (h3 : ∀ k, O1 k → ¬ O2 k) (h4 : ∀ k, O1 k → w0.heap.size ≤ k) (h5 : ∀ k, O2 k → w0.heap.size ≤ k) (h6 : Below w0.heap.size w0 w) (hp : ∀ k, pf = some k → ¬ O1 k ∧ ¬ O2 k ∧ k < w.heap.size ∧ w.heap[k]? = B)
    (e1 : RAt O2' w' px a c g d1) (hO : ∀ k, O2' k → Grow O2 w w' k) (e2 : Stay O2 w w') : Half w0 pf B w' pd px d1 d1 := by
  have hl := lt_of h1
  refine ⟨O1, O2', h1.stay e2 (fun k h1k h2k => h3 k h1k h2k), ⟨a, c, g, e1⟩, fit_of h1, fun k hk e => ?_, h4, fun k hk => ?_, h6.trans (e2.below h6.size h5), fun k hk => by obtain ⟨n1, n2, n3, n4⟩ := hp k hk; exact ⟨n1, fun e => (hO k e).elim n2 (fun e => by omega), Nat.lt_of_lt_of_le n3 e2.size, (e2.block k n3 n2).trans n4⟩⟩
  · rcases hO k e with e | e
    · exact h3 k hk e
    · have := hl k hk; omega
  · rcases hO k hk with hk | hk
    · exact h5 k hk
    · exact Nat.le_trans h6.size hk.1

theorem d_append (h : Half w0 pf B w pd px ds ds) (s d : ByteArray) (hs : s.size ≤ maxLen) (hd : d.size ≤ 140737488355328) (q : Int) (hq : begE ds (refA ds s.data.toList d.data.toList) = q) {ds' : DS} (hds : doD ds (refA ds s.data.toList d.data.toList) (fapp s.data.toList d.data.toList) = ds') :
    Calls Tryz.prog 52 #[.pointer (some ⟨pd, 0, none⟩), .string s, .string d] w fun e w' => e = .returned (.int .i64 q) ∧ Half w0 pf B w' pd px ds' ds := by
  obtain ⟨O1, O2, h1, ⟨a, c, g, h2⟩, hf, h3, h4, h5, h6, hp⟩ := h.out
  exact (append_val h1 s d hs hd q hq hds).mono fun e w' ⟨e1, e2, e3⟩ => ⟨e1, half_do h2 hf h3 h4 h5 h6 hp e2 (fun _ e => e) e3⟩
theorem x_append {ds' : DS} (h : Half w0 pf B w pd px ds' ds) (s d : ByteArray) (hs : s.size ≤ maxLen) (hd : d.size ≤ 140737488355328) (q : Int) (hq : begE ds (refA ds s.data.toList d.data.toList) = q) (hds : doD ds (refA ds s.data.toList d.data.toList) (fapp s.data.toList d.data.toList) = ds') :
    Calls Tryz.prog 32 #[.pointer (some ⟨px, 0, none⟩), .string s, .string d] w fun e w' => e = .returned (.int .i64 q) ∧ Half w0 pf B w' pd px ds' ds' := by
  obtain ⟨O1, O2, h1, ⟨a, c, g, h2⟩, hf, h3, h4, h5, h6, hp⟩ := h.out
  have hl : ∀ t : ByteArray, t.data.toList.length = t.size := fun t => Array.length_toList
  exact (refAppend_val h2 hf s.data.toList d.data.toList (by rw [hl]; exact hs) (by rw [hl]; exact hd) q hq hds).mono fun e w' ⟨e1, ⟨a', c', g', e2⟩, e3⟩ => ⟨e1, half_same h1 h3 h4 h5 h6 hp e2 (fun _ e => e) e3⟩

theorem d_sync (h : Half w0 pf B w pd px ds ds) (s : ByteArray) (hs : s.size ≤ maxLen) (q : Int) (hq : begE ds (refM ds.S s.data.toList) = q) {ds' : DS} (hds : doD ds (refM ds.S s.data.toList) (fsyn s.data.toList) = ds') :
    Calls Tryz.prog 53 #[.pointer (some ⟨pd, 0, none⟩), .string s] w fun e w' => e = .returned (.int .i64 q) ∧ Half w0 pf B w' pd px ds' ds := by
  obtain ⟨O1, O2, h1, ⟨a, c, g, h2⟩, hf, h3, h4, h5, h6, hp⟩ := h.out
  exact (sync_val h1 s hs q hq hds).mono fun e w' ⟨e1, e2, e3⟩ => ⟨e1, half_do h2 hf h3 h4 h5 h6 hp e2 (fun _ e => e) e3⟩
theorem x_sync {ds' : DS} (h : Half w0 pf B w pd px ds' ds) (s : ByteArray) (q : Int) (hq : begE ds (refM ds.S s.data.toList) = q) (hds : doD ds (refM ds.S s.data.toList) (fsyn s.data.toList) = ds') :
    Calls Tryz.prog 34 #[.pointer (some ⟨px, 0, none⟩), .string s] w fun e w' => e = .returned (.int .i64 q) ∧ Half w0 pf B w' pd px ds' ds' := by
  obtain ⟨O1, O2, h1, ⟨a, c, g, h2⟩, hf, h3, h4, h5, h6, hp⟩ := h.out
  exact (refSync_val h2 hf s.data.toList q hq hds).mono fun e w' ⟨e1, ⟨a', c', g', e2⟩, e3⟩ => ⟨e1, half_same h1 h3 h4 h5 h6 hp e2 (fun _ e => e) e3⟩

theorem d_delete (h : Half w0 pf B w pd px ds ds) (s : ByteArray) (hs : s.size ≤ maxLen) (q : Int) (hq : begE ds (refM ds.S s.data.toList) = q) {ds' : DS} (hds : doD ds (refM ds.S s.data.toList) (fun S => fdel S s.data.toList) = ds') :
    Calls Tryz.prog 51 #[.pointer (some ⟨pd, 0, none⟩), .string s] w fun e w' => e = .returned (.int .i64 q) ∧ Half w0 pf B w' pd px ds' ds := by
  obtain ⟨O1, O2, h1, ⟨a, c, g, h2⟩, hf, h3, h4, h5, h6, hp⟩ := h.out
  exact (delete_val h1 s hs q hq hds).mono fun e w' ⟨e1, e2, e3⟩ => ⟨e1, half_do h2 hf h3 h4 h5 h6 hp e2 (fun _ e => e) e3⟩
theorem x_delete {ds' : DS} (h : Half w0 pf B w pd px ds' ds) (s : ByteArray) (q : Int) (hq : begE ds (refM ds.S s.data.toList) = q) (hds : doD ds (refM ds.S s.data.toList) (fun S => fdel S s.data.toList) = ds') :
    Calls Tryz.prog 59 #[.pointer (some ⟨px, 0, none⟩), .string s] w fun e w' => e = .returned (.int .i64 q) ∧ Half w0 pf B w' pd px ds' ds' := by
  obtain ⟨O1, O2, h1, ⟨a, c, g, h2⟩, hf, h3, h4, h5, h6, hp⟩ := h.out
  exact (refDelete_val h2 hf s.data.toList q hq hds).mono fun e w' ⟨e1, ⟨a', c', g', e2⟩, e3⟩ => ⟨e1, half_same h1 h3 h4 h5 h6 hp e2 (fun _ e => e) e3⟩

theorem d_rename (h : Half w0 pf B w pd px ds ds) (s d : ByteArray) (hs : s.size ≤ maxLen) (hd : d.size ≤ maxLen) (q : Int) (hq : begE ds (refR ds.S s.data.toList d.data.toList) = q) {ds' : DS} (hds : doD ds (refR ds.S s.data.toList d.data.toList) (fren s.data.toList d.data.toList) = ds') :
    Calls Tryz.prog 25 #[.pointer (some ⟨pd, 0, none⟩), .string s, .string d] w fun e w' => e = .returned (.int .i64 q) ∧ Half w0 pf B w' pd px ds' ds := by
  obtain ⟨O1, O2, h1, ⟨a, c, g, h2⟩, hf, h3, h4, h5, h6, hp⟩ := h.out
  exact (rename_val h1 s d hs hd q hq hds).mono fun e w' ⟨e1, e2, e3⟩ => ⟨e1, half_do h2 hf h3 h4 h5 h6 hp e2 (fun _ e => e) e3⟩
theorem x_rename {ds' : DS} (h : Half w0 pf B w pd px ds' ds) (s d : ByteArray) (hd : d.size ≤ maxLen) (q : Int) (hq : begE ds (refR ds.S s.data.toList d.data.toList) = q) (hds : doD ds (refR ds.S s.data.toList d.data.toList) (fren s.data.toList d.data.toList) = ds') :
    Calls Tryz.prog 60 #[.pointer (some ⟨px, 0, none⟩), .string s, .string d] w fun e w' => e = .returned (.int .i64 q) ∧ Half w0 pf B w' pd px ds' ds' := by
  obtain ⟨O1, O2, h1, ⟨a, c, g, h2⟩, hf, h3, h4, h5, h6, hp⟩ := h.out
  have hl : ∀ t : ByteArray, t.data.toList.length = t.size := fun t => Array.length_toList
  exact (refRename_val h2 hf s.data.toList d.data.toList (by rw [hl]; exact hd) q hq hds).mono fun e w' ⟨e1, ⟨a', c', g', e2⟩, e3⟩ => ⟨e1, half_same h1 h3 h4 h5 h6 hp e2 (fun _ e => e) e3⟩

theorem d_fuse (h : Half w0 pf B w pd px ds ds) (n f : Int) (hn : -9223372036854775808 ≤ n ∧ n < 9223372036854775808) (hf : max n 0 = f) :
    Calls Tryz.prog 12 #[.pointer (some ⟨pd, 0, none⟩), .int .i64 n] w fun e w' => e = .returned (.tuple #[]) ∧ Half w0 pf B w' pd px { ds with fuse := f } ds := by
  obtain ⟨O1, O2, h1, ⟨a, c, g, h2⟩, hf2, h3, h4, h5, h6, hp⟩ := h.out
  exact (fuse_val h1 n f hn hf).mono fun e w' ⟨e1, e2, e3⟩ => ⟨e1, half_do h2 hf2 h3 h4 h5 h6 hp e2 (fun _ e => .inl e) e3⟩
theorem x_fuse {f : Int} (h : Half w0 pf B w pd px { ds with fuse := f } ds) (n : Int) (hn : -9223372036854775808 ≤ n ∧ n < 9223372036854775808) (hf : max n 0 = f) :
    Calls Tryz.prog 13 #[.pointer (some ⟨px, 0, none⟩), .int .i64 n] w fun e w' => e = .returned (.tuple #[]) ∧ Half w0 pf B w' pd px { ds with fuse := f } { ds with fuse := f } := by
  obtain ⟨O1, O2, h1, ⟨a, c, g, h2⟩, hf2, h3, h4, h5, h6, hp⟩ := h.out
  exact (refFuse_val h2 n f hn hf).mono fun e w' ⟨e1, e2, e3⟩ => ⟨e1, half_same h1 h3 h4 h5 h6 hp e2 (fun _ e => .inl e) e3⟩

theorem d_crash (h : Half w0 pf B w pd px ds ds) (ka : Option Addr) (kb koff kcap m : Nat) (ks : List Int) (hm : ks.length = m) (hmx : m ≤ maxLen) (hI : Ints w0 .i64 ka kb koff ks) (hks : ∀ k ∈ ks, -9223372036854775808 ≤ k ∧ k ≤ 9223372036854775807) :
    Calls Tryz.prog 14 #[.pointer (some ⟨pd, 0, none⟩), .slice ka m kcap] w fun e w' => e = .returned (.tuple #[]) ∧ Half w0 pf B w' pd px ⟨ds.room, 0, false, crashL ks ds.S⟩ ds := by
  obtain ⟨O1, O2, h1, ⟨a, c, g, h2⟩, hf, h3, h4, h5, h6, hp⟩ := h.out
  refine (crash_val h1 ka kb koff kcap m ks hm hmx (hI.below h6) (fun hp e => ?_) hks).mono fun e w' ⟨e1, e2, e3⟩ => ⟨e1, half_do h2 hf h3 h4 h5 h6 hp e2 (fun _ e => .inl e) e3⟩
  have := hI.lt (by omega)
  have := h4 kb e
  omega
theorem x_crash (ka : Option Addr) (kb koff kcap m : Nat) (ks : List Int) (h : Half w0 pf B w pd px ⟨ds.room, 0, false, crashL ks ds.S⟩ ds) (hm : ks.length = m) (hmx : m ≤ maxLen) (hI : Ints w0 .i64 ka kb koff ks) (hks : ∀ k ∈ ks, -9223372036854775808 ≤ k ∧ k ≤ 9223372036854775807) :
    Calls Tryz.prog 15 #[.pointer (some ⟨px, 0, none⟩), .slice ka m kcap] w fun e w' => e = .returned (.tuple #[]) ∧ Half w0 pf B w' pd px ⟨ds.room, 0, false, crashL ks ds.S⟩ ⟨ds.room, 0, false, crashL ks ds.S⟩ := by
  obtain ⟨O1, O2, h1, ⟨a, c, g, h2⟩, hf, h3, h4, h5, h6, hp⟩ := h.out
  exact (refCrash_val h2 hf ka kb koff kcap m ks hm hmx (hI.below h6) hks).mono fun e w' ⟨e1, ⟨a', c', g', e2⟩, e3⟩ => ⟨e1, half_same h1 h3 h4 h5 h6 hp e2 (fun _ e => e) e3⟩

theorem d_read (h : Half w0 pf B w pd px ds ds) (s : ByteArray) (hs : s.size ≤ maxLen) (t : ByteArray) (q : Int) (ht : rdT ds s.data.toList = t) (hq : rdE ds s.data.toList = q) :
    Calls Tryz.prog 29 #[.pointer (some ⟨pd, 0, none⟩), .string s] w fun e w' => e = .returned (.tuple #[.string t, .int .i64 q]) ∧ Half w0 pf B w' pd px ds ds := by
  obtain ⟨O1, O2, h1, ⟨a, c, g, h2⟩, hf, h3, h4, h5, h6, hp⟩ := h.out
  exact (read_val h1 s hs t q ht hq).mono fun e w' ⟨e1, e2⟩ => ⟨e1, h.below e2⟩
theorem x_read (h : Half w0 pf B w pd px ds ds) (s : ByteArray) (t : ByteArray) (q : Int) (ht : rdT ds s.data.toList = t) (hq : rdE ds s.data.toList = q) :
    Calls Tryz.prog 31 #[.pointer (some ⟨px, 0, none⟩), .string s] w fun e w' => e = .returned (.tuple #[.string t, .int .i64 q]) ∧ w' = w := by
  obtain ⟨O1, O2, h1, ⟨a, c, g, h2⟩, hf, h3, h4, h5, h6, hp⟩ := h.out
  exact refRead_val h2 hf s.data.toList t q ht hq

end

end Go.Proofs.YtefncpgemdgbbaaGreat

/- What the disk and the document's list, and what they use. -/
namespace Go.Proofs.YtefncpgemdgbbaaGreat
open Go.RowKit

theorem list_both {w0 w : World} {pf : Option Nat} {B : Option Obj} {pd px : Nat} {ds : DS} (h : Half w0 pf B w pd px ds ds) (L : Nat) (hL : (listN ds).length = L) :
    Calls Tryz.prog 44 #[.pointer (some ⟨pd, 0, none⟩)] w fun e w' => ∃ a c b, e = .returned (.slice a L c) ∧ (0 < L → a = some ⟨b, 0, none⟩) ∧ (∀ j (hj : j < ((listN ds).map ba).length), w'.cell? ⟨b, j, none⟩ = some (.string ((listN ds).map ba)[j])) ∧ Half w0 pf B w' pd px ds ds := by
  obtain ⟨O1, O2, h1, ⟨a, c, g, h2⟩, hf, h3, h4, h5, h6, hp⟩ := h.out
  refine (list_val h1).mono fun e w' ⟨v, e1, e2, _, e3⟩ => ?_
  obtain ⟨_, a, c, b, hv, hb, hcell⟩ := own_names e2
  refine ⟨a, c, b, by rw [e1, hv, hL], fun hp => (hb (by omega)).1, fun j hj => ?_, h.below e3⟩
  have hj2 : j < (listN ds).length := by simpa using hj
  rw [hcell j hj2]
  simp [ba]

theorem list_ref {w0 w : World} {pf : Option Nat} {B : Option Obj} {pd px : Nat} {ds : DS} (h : Half w0 pf B w pd px ds ds) (L : Nat) (hL : (listN ds).length = L) :
    Calls Tryz.prog 45 #[.pointer (some ⟨px, 0, none⟩)] w fun e w' => ∃ a c b, e = .returned (.slice a L c) ∧ (0 < L → a = some ⟨b, 0, none⟩) ∧ (∀ j (hj : j < ((listN ds).map ba).length), w'.cell? ⟨b, j, none⟩ = some (.string ((listN ds).map ba)[j])) ∧ Below w.heap.size w w' := by
  obtain ⟨O1, O2, h1, ⟨a, c, g, h2⟩, hf, h3, h4, h5, h6, hp⟩ := h.out
  obtain ⟨room, fuse, down, S⟩ := ds
  have eL : (if down then [] else S).length = L := by rw [← hL]; cases down <;> simp [listN]
  have eN : namCs (if down then [] else S) = ((listN ⟨room, fuse, down, S⟩).map ba).map .string := by cases down <;> simp [listN, namCs]
  refine (refList_val h2 hf L eL).mono fun e w' ⟨oa, oc, og, e1, e2, e3⟩ => ?_
  rw [eN] at e2
  refine ⟨oa, oc, og.getD 0, e1, fun hp => ?_, fun j hj => ?_, e3⟩
  · obtain ⟨k, rfl, rfl⟩ := e2.at hp
    rfl
  · have hjl : 0 < L := by rw [← hL]; have : j < (listN ⟨room, fuse, down, S⟩).length := by simpa using hj
                           omega
    obtain ⟨k, rfl, rfl⟩ := e2.at hjl
    have := e2.cell j (by simpa using hj)
    rw [Option.getD_some, this]
    simp

section
variable {w0 w : World} {pf : Option Nat} {B : Option Obj} {pd px : Nat} {ds : DS}
theorem d_used (h : Half w0 pf B w pd px ds ds) (n : Nat) (hn : usedN ds = n) :
    Calls Tryz.prog 46 #[.pointer (some ⟨pd, 0, none⟩)] w fun e w' => e = .returned (.int .i64 n) ∧ Below w.heap.size w w' := by
  obtain ⟨O1, O2, h1, ⟨a, c, g, h2⟩, hf, h3, h4, h5, h6, hp⟩ := h.out
  exact used_val h1 n hn
theorem x_used (h : Half w0 pf B w pd px ds ds) (n : Nat) (hn : usedN ds = n) :
    Calls Tryz.prog 47 #[.pointer (some ⟨px, 0, none⟩)] w fun e w' => e = .returned (.int .i64 n) ∧ Below w.heap.size w w' := by
  obtain ⟨O1, O2, h1, ⟨a, c, g, h2⟩, hf, h3, h4, h5, h6, hp⟩ := h.out
  exact (refUsed_val h2 hf n hn).mono fun e w' ⟨e1, e2⟩ => ⟨e1, by rw [e2]; exact Below.refl _ _⟩
theorem x_off (h : Half w0 pf B w pd px ds ds) (v : Bool) (hv : ds.down = v) : w.cell? ⟨px, 3, none⟩ = some (.bool v) := by
  obtain ⟨O1, O2, h1, ⟨a, c, g, h2⟩, hf, h3, h4, h5, h6, hp⟩ := h.out
  rw [← hv]; exact h2.c3
end

end Go.Proofs.YtefncpgemdgbbaaGreat

/- A disk without a fuse: what each call does, if it may. -/
namespace Go.Proofs.YtefncpgemdgbbaaGreat
open Go.RowKit

theorem refA_ok {room f : Int} {dn : Bool} {S : FS} {n d : List UInt8} (h1 : nameOk n = true) (h2 : flen (fget S n) + d.length ≤ 400000) (h3 : (fget S n).isSome = true ∨ S.length < 20) (h4 : ((tot S + d.length : Nat) : Int) ≤ room) : refA ⟨room, f, dn, S⟩ n d = 0 := by
  unfold refA
  rw [if_pos h1]
  have e1 : ¬ 400000 < flen (fget S n) + d.length := by omega
  have e2 : ¬ ((fget S n).isNone = true ∧ 20 ≤ S.length) := fun ⟨e, e'⟩ => by
    rcases h3 with h | h
    · cases hf : fget S n with
      | none => rw [hf] at h; cases h
      | some _ => rw [hf] at e; cases e
    · omega
  have e3 : ¬ room < ((tot S + d.length : Nat) : Int) := by omega
  show (if 400000 < flen (fget S n) + d.length then _ else if (fget S n).isNone = true ∧ 20 ≤ S.length then _ else if room < ((tot S + d.length : Nat) : Int) then _ else _) = (0 : Int)
  rw [if_neg e1, if_neg e2, if_neg e3]

theorem refA_full {room f : Int} {dn : Bool} {S : FS} {n d : List UInt8} (h1 : nameOk n = true) (h2 : flen (fget S n) + d.length ≤ 400000) (h3 : (fget S n).isSome = true ∨ S.length < 20) (h4 : room < ((tot S + d.length : Nat) : Int)) : refA ⟨room, f, dn, S⟩ n d = 8 := by
  unfold refA
  rw [if_pos h1]
  have e1 : ¬ 400000 < flen (fget S n) + d.length := by omega
  have e2 : ¬ ((fget S n).isNone = true ∧ 20 ≤ S.length) := fun ⟨e, e'⟩ => by
    rcases h3 with h | h
    · cases hf : fget S n with
      | none => rw [hf] at h; cases h
      | some _ => rw [hf] at e; cases e
    · omega
  show (if 400000 < flen (fget S n) + d.length then _ else if (fget S n).isNone = true ∧ 20 ≤ S.length then _ else if room < ((tot S + d.length : Nat) : Int) then _ else _) = (8 : Int)
  rw [if_neg e1, if_neg e2, if_pos h4]

theorem refM_some {S : FS} {n : List UInt8} {f : List UInt8 × Nat} (h : fget S n = some f) : refM S n = 0 := by unfold refM; rw [h]; rfl
theorem refM_none {S : FS} {n : List UInt8} (h : fget S n = none) : refM S n = 5 := by unfold refM; rw [h]; rfl

section
variable {w0 w : World} {pd : Nat} {room : Int} {S S' : FS}

theorem ok_append (h : One w0 w pd ⟨room, 0, false, S⟩) (s d : ByteArray) (hs : s.size ≤ maxLen) (hd : d.size ≤ 140737488355328) (hr : refA ⟨room, 0, false, S⟩ s.data.toList d.data.toList = 0) (hS : fapp s.data.toList d.data.toList S = S') :
    Calls Tryz.prog 52 #[.pointer (some ⟨pd, 0, none⟩), .string s, .string d] w fun e w' => e = .returned (.int .i64 0) ∧ One w0 w' pd ⟨room, 0, false, S'⟩ :=
  one_append h s d hs hd 0 (by rw [begE_plain]; exact hr) (by rw [hr, doD_plain, hS])

theorem no_append (h : One w0 w pd ⟨room, 0, false, S⟩) (s d : ByteArray) (hs : s.size ≤ maxLen) (hd : d.size ≤ 140737488355328) (q : Int) (hr : refA ⟨room, 0, false, S⟩ s.data.toList d.data.toList = q) (hq : q ≠ 0) :
    Calls Tryz.prog 52 #[.pointer (some ⟨pd, 0, none⟩), .string s, .string d] w fun e w' => e = .returned (.int .i64 q) ∧ One w0 w' pd ⟨room, 0, false, S⟩ :=
  one_append h s d hs hd q (by rw [begE_plain]; exact hr) (by rw [hr, doD_no _ _ _ hq])

theorem ok_sync (h : One w0 w pd ⟨room, 0, false, S⟩) (s : ByteArray) (hs : s.size ≤ maxLen) (f : List UInt8 × Nat) (hf : fget S s.data.toList = some f) (hS : fsyn s.data.toList S = S') :
    Calls Tryz.prog 53 #[.pointer (some ⟨pd, 0, none⟩), .string s] w fun e w' => e = .returned (.int .i64 0) ∧ One w0 w' pd ⟨room, 0, false, S'⟩ :=
  one_sync h s hs 0 (by rw [begE_plain]; exact refM_some hf) (by rw [show refM _ _ = 0 from refM_some hf, doD_plain, hS])

theorem ok_delete (h : One w0 w pd ⟨room, 0, false, S⟩) (s : ByteArray) (hs : s.size ≤ maxLen) (f : List UInt8 × Nat) (hf : fget S s.data.toList = some f) (hS : fdel S s.data.toList = S') :
    Calls Tryz.prog 51 #[.pointer (some ⟨pd, 0, none⟩), .string s] w fun e w' => e = .returned (.int .i64 0) ∧ One w0 w' pd ⟨room, 0, false, S'⟩ :=
  one_delete h s hs 0 (by rw [begE_plain]; exact refM_some hf) (by rw [show refM _ _ = 0 from refM_some hf, doD_plain, hS])

theorem ok_rename (h : One w0 w pd ⟨room, 0, false, S⟩) (s d : ByteArray) (hs : s.size ≤ maxLen) (hd : d.size ≤ maxLen) (f : List UInt8 × Nat) (hn : nameOk d.data.toList = true) (hf : fget S s.data.toList = some f) (hS : fren s.data.toList d.data.toList S = S') :
    Calls Tryz.prog 25 #[.pointer (some ⟨pd, 0, none⟩), .string s, .string d] w fun e w' => e = .returned (.int .i64 0) ∧ One w0 w' pd ⟨room, 0, false, S'⟩ := by
  have hr : refR S s.data.toList d.data.toList = 0 := by unfold refR; rw [if_pos hn]; exact refM_some hf
  exact one_rename h s d hs hd 0 (by rw [begE_plain]; exact hr) (by rw [show refR _ _ _ = 0 from hr, doD_plain, hS])

theorem ok_crash (h : One w0 w pd ⟨room, 0, false, S⟩) (ka : Option Addr) (kb koff kcap m : Nat) (ks : List Int) (hm : ks.length = m) (hmx : m ≤ maxLen) (hI : Ints w0 .i64 ka kb koff ks) (hks : ∀ k ∈ ks, -9223372036854775808 ≤ k ∧ k ≤ 9223372036854775807) (hS : crashL ks S = S') :
    Calls Tryz.prog 14 #[.pointer (some ⟨pd, 0, none⟩), .slice ka m kcap] w fun e w' => e = .returned (.tuple #[]) ∧ One w0 w' pd ⟨room, 0, false, S'⟩ :=
  (one_crash h ka kb koff kcap m ks hm hmx hI hks).mono fun _ _ ⟨h1, h2⟩ => ⟨h1, hS ▸ h2⟩

theorem ok_read (h : One w0 w pd ⟨room, 0, false, S⟩) (s : ByteArray) (hs : s.size ≤ maxLen) (t : ByteArray) (sy : Nat) (hf : fget S s.data.toList = some (t.data.toList, sy)) :
    Calls Tryz.prog 29 #[.pointer (some ⟨pd, 0, none⟩), .string s] w fun e w' => e = .returned (.tuple #[.string t, .int .i64 0]) ∧ One w0 w' pd ⟨room, 0, false, S⟩ :=
  one_read h s hs t 0 (by rw [rdT_eq _ rfl]; show (⟨(fdat S s.data.toList).toArray⟩ : ByteArray) = t; unfold fdat; rw [hf]) (by rw [rdE_eq _ rfl]; exact refM_some hf)

theorem no_read (h : One w0 w pd ⟨room, 0, false, S⟩) (s : ByteArray) (hs : s.size ≤ maxLen) (hf : fget S s.data.toList = none) :
    Calls Tryz.prog 29 #[.pointer (some ⟨pd, 0, none⟩), .string s] w fun e w' => e = .returned (.tuple #[.string ⟨#[]⟩, .int .i64 5]) ∧ One w0 w' pd ⟨room, 0, false, S⟩ :=
  one_read h s hs ⟨#[]⟩ 5 (by rw [rdT_eq _ rfl]; show (⟨(fdat S s.data.toList).toArray⟩ : ByteArray) = _; unfold fdat; rw [hf]) (by rw [rdE_eq _ rfl]; exact refM_none hf)

theorem ok_used (h : One w0 w pd ⟨room, 0, false, S⟩) (n : Nat) (hn : tot S = n) :
    Calls Tryz.prog 46 #[.pointer (some ⟨pd, 0, none⟩)] w fun e w' => e = .returned (.int .i64 n) ∧ One w0 w' pd ⟨room, 0, false, S⟩ := one_used h n hn

end

end Go.Proofs.YtefncpgemdgbbaaGreat

/- The contract of tabulariumlaw04.pick. -/
namespace Go.Proofs.YtefncpgemdgbbaaGreat
open Go.RowKit

end Go.Proofs.YtefncpgemdgbbaaGreat
