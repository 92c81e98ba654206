/- The contract of tabulariumref03.Sort. -/
import Derived.Test.YtlgfhmedenlbcabRealRefO
import Derived.Test.YtlgfhmedenlbcabRealReals
import Derived.Test.YtlgfhmedenlbcabRealInsM
import Derived.Test.YtlgfhmedenlbcabRowCel
import Derived.OwnWalk
namespace Go.Proofs.Ytlgfhmedenlbcab
open Go.RowKit

theorem f64row : ∃ i, Try.prog.info? 22 = some i ∧ i.zero = some (.float .f64 0) ∧ i.size = 1 ∧ i.bytes = 8 :=
  info_parts (show (Try.prog.info? 22).map (fun i => (i.zero, i.size, i.bytes)) = some (some (.float .f64 0), 1, 8) by kernel_rfl)

theorem flt_one (xs : List Nat) : ∀ u ∈ fltCells xs, u.oneCell' = true := by
  intro u hu
  simp [fltCells] at hu
  obtain ⟨z, _, rfl⟩ := hu
  rfl

theorem fltCells_take (xs : List Nat) (k : Nat) : (fltCells xs).take k = fltCells (xs.take k) := by simp [fltCells]
theorem fltCells_drop (xs : List Nat) (k : Nat) : (fltCells xs).drop k = fltCells (xs.drop k) := by simp [fltCells]

/-- The first k, as what is appended. -/
theorem src_take {O : Nat → Prop} {w : World} {a : Option Addr} {n c : Nat} {ys : List Nat} {g : Option Nat} (h : Cel O w 1 (.slice a n c) n (fltCells ys) g) (k : Nat) (hk : k ≤ n) : Src Try.prog 1 23 (.slice a k c) k (fltCells (ys.take k)) w := by
  have hl := h.len
  rw [fltCells_len] at hl
  cases h with
  | nil h1 h2 h3 =>
    cases h1
    obtain rfl : k = 0 := by omega
    exact Src.ofNil w Try.underlying23 0
  | row g cap h1 hl2 h2 h3 h4 h5 h6 h7 =>
    cases h1
    refine Src.ofSlice w Try.underlying23 ⟨g, 0, none⟩ k _ (fltCells (ys.take k)) (by rw [fltCells_len, List.length_take]; omega) (fun j u hu => ?_) (flt_one _)
    rw [Addr.add_lit, Nat.zero_add]
    obtain ⟨hj1, hj2⟩ := List.getElem?_eq_some_iff.1 hu
    rw [fltCells_len, List.length_take] at hj1
    rw [h6 j (by rw [fltCells_len]; omega), ← hj2]
    simp [fltCells]

/-- The others. -/
theorem src_drop {O : Nat → Prop} {w : World} {g n c : Nat} {ys : List Nat} (h : Cel O w 1 (.slice (some ⟨g, 0, none⟩) n c) n (fltCells ys) (some g)) (k m c2 : Nat) (hk : k + m = n) : Src Try.prog 1 23 (.slice (some ⟨g, k, none⟩) m c2) m (fltCells (ys.drop k)) w := by
  have hl := h.len
  rw [fltCells_len] at hl
  refine Src.ofSlice w Try.underlying23 ⟨g, k, none⟩ m _ (fltCells (ys.drop k)) (by rw [fltCells_len, List.length_drop]; omega) (fun j u hu => ?_) (flt_one _)
  rw [Addr.add_lit]
  obtain ⟨hj1, hj2⟩ := List.getElem?_eq_some_iff.1 hu
  rw [fltCells_len, List.length_drop] at hj1
  rw [h.cell (k + j) (by rw [fltCells_len]; omega), ← hj2]
  simp [fltCells]

theorem stay_none {w w' : World} (h : Stay (fun k => (none : Option Nat) = some k) w w') : Below w.heap.size w w' := ⟨h.os, h.tape, h.output, h.size, fun _ hk => h.block _ hk (fun e => nomatch e)⟩

theorem Cel.low {B : Nat} {w w' : World} {sl : Value} {n : Nat} {cs : List Value} {g : Option Nat} (hB : B ≤ w.heap.size) (h : Cel (Grow (fun k => B ≤ k) w w') w' 1 sl n cs g) : Cel (fun k => B ≤ k) w' 1 sl n cs g :=
  h.stay (Nat.le_refl _) (fun _ _ => rfl) (fun _ hk => hk.elim id (fun e => Nat.le_trans hB e.1))

theorem below_of_stay {B : Nat} {w w' : World} {g : Option Nat} (h : Stay (fun k => g = some k) w w') (hB : B ≤ w.heap.size) (hg : ∀ k, g = some k → B ≤ k) : Below B w w' := h.below hB hg

/-- What was gathered stays while another row grows. -/
theorem out_stays {B : Nat} {W w1 : World} {sl : Value} {n : Nat} {cs : List Value} {g' : Nat} {g1 : Option Nat} (hCW : Cel (fun k => B ≤ k) W 1 sl n cs (some g')) (hb1 : Below W.heap.size W w1) (hf1 : ∀ k, g1 = some k → (none : Option Nat) = some k ∨ W.heap.size ≤ k) {o : Obj} :
    ∀ w2, Stay (fun k => g1 = some k) (w1.alloc o) w2 → Cel (fun k => B ≤ k) w2 1 sl n cs (some g') := by
  intro w2 hst2
  have hg := hCW.lt.1
  have h1 := hCW.below hb1
  have h2 := h1.below ((Below.refl _ w1).alloc (Nat.le_refl _) o)
  refine h2.stay hst2.size (fun k hk => hst2.block k (by rw [hk] at h2; exact h2.lt.1) (fun e => ?_)) (fun _ e => e)
  cases hk
  rcases hf1 _ e with e | e
  · cases e
  · omega

/-- One fraction, in a block of its own. -/
theorem src_one (w : World) (x : Nat) : Src Try.prog 1 23 (.slice (some ⟨w.heap.size, 0, none⟩) 1 1) 1 [.float .f64 x] (w.alloc (.cells #[.float .f64 x] 22)) :=
  Src.ofSlice _ Try.underlying23 ⟨w.heap.size, 0, none⟩ 1 1 [.float .f64 x] rfl (fun j u hu => by
    obtain ⟨hj1, hj2⟩ := List.getElem?_eq_some_iff.1 hu
    have : j = 0 := by simpa using hj1
    subst this
    rw [Addr.add_lit, Nat.zero_add, ← hj2]
    exact World.cell?_alloc_new w _ _ 0) (fun u hu => by rw [List.mem_singleton.1 hu]; rfl)

theorem src_drop_if {O : Nat → Prop} {w : World} {g n c : Nat} {ys : List Nat} (h : Cel O w 1 (.slice (some ⟨g, 0, none⟩) n c) n (fltCells ys) (some g)) (k m c2 : Nat) (hk : k + m = n) (hc : n ≤ c) : Src Try.prog 1 23 (.slice (if c = k then some ⟨g, 0, none⟩ else some ⟨g, k, none⟩) m c2) m (fltCells (ys.drop k)) w := by
  by_cases e : c = k
  · rw [if_pos e]
    obtain rfl : m = 0 := by omega
    have hl := h.len
    rw [fltCells_len] at hl
    rw [List.drop_of_length_le (by omega)]
    exact Src.ofSlice w Try.underlying23 ⟨g, 0, none⟩ 0 _ [] rfl (fun j u hu => by simp at hu) (fun u hu => by cases hu)
  · rw [if_neg e]
    exact src_drop h k m c2 hk

set_option maxRecDepth 100000 in
set_option maxHeartbeats 2000000 in
theorem refSort_val (a : Option Addr) (b off cap n : Nat) (xs : List Nat) (w : World) (hn : xs.length = n) (hl : n ≤ 1000) (hI : Flts w a b off xs) (hx : ∀ x ∈ xs, x < 18446744073709551616) :
    Calls Try.prog 8 #[.slice a n cap] w fun e w' => ∃ oa oc g ys, e = .returned (.slice oa n oc) ∧ Cel (fun k => w.heap.size ≤ k) w' 1 (.slice oa n oc) n (fltCells ys) g ∧ ys.Perm xs ∧ Srt 0 n ys ∧ Below w.heap.size w w' := by
  obtain ⟨ti, hi1, hi2, hi3, hi4⟩ := f64row
  have HN : Hid _ := hn
  have HI : Hid _ := hI
  have HX : Hid _ := hx
  clear hn hI hx
  go_enter Try.func8, Try.ntmps8
  go_wp2
  go_loopw [3, 4] (fun vo vi wr => ∃ (i : Nat) (oa : Option Addr) (oc : Nat) (g : Option Nat) (ys : List Nat), i ≤ n ∧ vi = .int .i64 i ∧ vo = .slice oa i oc ∧ Cel (fun k => w.heap.size ≤ k) wr 1 (.slice oa i oc) i (fltCells ys) g ∧ ys.Perm (xs.take i) ∧ Srt 0 i ys ∧ Below w.heap.size w wr) (fun _ vi _ => n - (intOf vi).toNat)
  case atStart => exact ⟨0, none, 0, none, [], by omega, rfl, rfl, .nil rfl rfl rfl, List.Perm.refl _, fun i j _ _ h => by omega, Below.refl _ _⟩
  case round =>
    obtain ⟨i, oa, oc, g, ys, hin, rfl, rfl, hC, hP, hS, hB⟩ := hrel
    have hyl : ys.length = i := by have := hC.len; rwa [fltCells_len, Nat.mul_one] at this
    by_cases hlt : i < n
    · have hiX : i < xs.length := by rw [HN.out]; exact hlt
      obtain rfl := HI.out.addr (by omega)
      have hcx := fltAt (HI.out.below hB) i hiX
      obtain ⟨x, hx0⟩ : ∃ x, at0 xs i = x := ⟨_, rfl⟩
      rw [hx0] at hcx
      have bx : x < 18446744073709551616 := by rw [← hx0]; exact HX.out _ (memAt hiX)
      have hP2 : ∀ zs : List Nat, zs.Perm (ys ++ [x]) → zs.Perm (xs.take (i + 1)) := fun zs hz => by
        refine hz.trans ?_
        rw [List.take_succ_eq_append_getElem hiX, ← at0_eq _ _ hiX, hx0]
        exact List.Perm.append_right _ hP
      have byy : ∀ y ∈ ys, y < 18446744073709551616 := fun y hy => HX.out y (List.mem_of_mem_take (hP.mem_iff.1 hy))
      have HP2 : Hid _ := hP2
      have HS : Hid _ := hS
      have HB : Hid _ := hB
      have HC : Hid (Cel (fun k => w.heap.size ≤ k) wr 1 (.slice oa i oc) i (fltCells ys) g) := hC
      have HYL : Hid _ := hyl
      have BY : Hid _ := byy
      have hle : i ≤ oc := by
        cases hC with
        | nil h1 h2 h3 => cases h1; omega
        | row g cap h1 hl2 h2 h3 h4 h5 h6 h7 => cases h1; exact h4
      have hcapm : oc ≤ 9223372036854775807 := by
        cases hC with
        | nil h1 h2 h3 => cases h1; omega
        | row g cap h1 hl2 h2 h3 h4 h5 h6 h7 => cases h1; unfold maxLen at h5; omega
      have HAD : Hid (0 < i → ∃ g', oa = some ⟨g', 0, none⟩ ∧ g = some g') := fun hp => by
        cases hC with
        | nil h1 h2 h3 => omega
        | row g cap h1 hl2 h2 h3 h4 h5 h6 h7 => cases h1; exact ⟨g, rfl, rfl⟩
      have HCN : Hid ((oa = none ∧ oc = 0 ∧ i = 0 ∧ g = none) ∨ ∃ g', oa = some ⟨g', 0, none⟩ ∧ g = some g') := by
        cases hC with
        | nil h1 h2 h3 => cases h1; exact .inl ⟨rfl, rfl, h2, rfl⟩
        | row g cap h1 hl2 h2 h3 h4 h5 h6 h7 => cases h1; exact .inr ⟨g, rfl, rfl⟩
      clear hP2 hS hB hC hyl byy hP hx0
      rename World => wo
      go_wp2
      go_loopw [5] (fun vk wr => ∃ k d : Nat, k ≤ i ∧ vk = .int .i64 k ∧ (∀ j, k ≤ j → j < i → key x < key (at0 ys j)) ∧ wr = wo.drewN d) (fun vk _ => (intOf vk).toNat)
      case atStart => exact ⟨i, 0, by omega, rfl, fun j h1 h2 => by omega, rfl⟩
      case round =>
        obtain ⟨k, d, hk, rfl, hhi, hd⟩ := hrel
        have HHI : Hid _ := hhi
        have HD : Hid _ := hd
        clear hhi hd
        rcases Nat.eq_zero_or_pos k with hk0 | hk0
        · subst hk0
          have hg : decide ((0 : Int) < 0) = false := by decide
          go_wp2
          refine wp_region_quiet_lit (by kernel_rfl) (by kernel_rfl) ?_
          repeat (first | go_big_quiet_step (fail) | quiet_step (fail))
          refine wpQuiet_nil ?_
          rintro _ ⟨nq, rfl⟩
          obtain ⟨W, hW⟩ : ∃ W, wr.drewN nq = W := ⟨_, rfl⟩
          rw [hW]
          have hWb : Below wo.heap.size wo W := by rw [← hW, HD.out, World.drewN_drewN]; exact belD _ _
          have hCW := HC.out.below hWb
          have hcxW : W.cell? ⟨b, off + i, none⟩ = some (.float .f64 x) := by rw [← hW, HD.out]; exact cellD (cellD hcx d) nq
          clear hW HD
          rcases HCN.out with ⟨rfl, rfl, hi0, rfl⟩ | ⟨g', rfl, rfl⟩
          · have HYS : Hid (ys = []) := List.length_eq_zero_iff.1 (by rw [HYL.out]; exact hi0)
            subst hi0
            have hwW : w.heap.size ≤ W.heap.size := Nat.le_trans HB.out.size hWb.size
            have hbW : b < W.heap.size := World.block_lt_of_cell? _ _ hcxW
            go_wp2_with (first
              | (at_builtin; refine wpList_append_cel _ rfl _ _ 23 23 rfl 22 ti (.float .f64 0) 1 8 Try.underlying23 hi1 hi2 hi3 hi4 rfl (O := fun k => w.heap.size ≤ k) _ (0 + 1) _ g2 rfl hC2' _ 0 (fltCells (ys.drop 0)) rfl (by rw [HYS.out]; exact Src.ofNil _ Try.underlying23 _) (by unfold maxLen; omega) (by omega) ?_; intro a3 cc3 w3 g3 hC3 hst3 hf3)
              | (at_builtin; refine wpList_append_cel _ rfl _ _ 23 23 rfl 22 ti (.float .f64 0) 1 8 Try.underlying23 hi1 hi2 hi3 hi4 rfl (O := fun k => w.heap.size ≤ k) _ 0 _ g1 rfl (hC1'.below ((Below.refl _ _).alloc (Nat.le_refl _) _)) _ 1 [.float .f64 x] rfl (src_one w1 x) (by unfold maxLen; omega) (by omega) ?_; intro a2 cc2 w2 g2 hC2 hst2 hf2; have hw2 : w1.heap.size + 1 ≤ w2.heap.size := (by have := hst2.size; simpa using this); have hC2' := Cel.low (by simp; omega) hC2; have hb2 := below_of_stay (B := w.heap.size) hst2 (by simp; omega) (fun k hk => by have := hf1 k hk; rcases this with e | e; cases e; omega))
              | (at_builtin; refine wpList_append_cel _ rfl _ _ 23 23 rfl 22 ti (.float .f64 0) 1 8 Try.underlying23 hi1 hi2 hi3 hi4 rfl (O := fun k => w.heap.size ≤ k) (.slice none 0 0) 0 [] none rfl (.nil rfl rfl rfl) _ 0 (fltCells (ys.take 0)) rfl (src_take hCW 0 hk) (by unfold maxLen; omega) (by omega) ?_; intro a1 cc1 w1 g1 hC1 hst1 hf1; have hb1 := stay_none hst1; have hw1 := hb1.size; have hcx1 : w1.cell? ⟨b, off, none⟩ = some (.float .f64 x) := (hb1.cell (p := ⟨b, off + 0, none⟩) hbW).trans hcxW; have hC1' := Cel.low hwW hC1; simp only [Nat.zero_add, List.nil_append] at hC1'))
            have hC3' := Cel.low (by omega) hC3
            have hb3 := below_of_stay (B := w.heap.size) hst3 (by omega) (fun k hk => by rw [hk] at hC2'; exact hC2'.lt.2)
            have hlen : 0 + 1 + 0 = 0 + 1 := by omega
            have hcs : fltCells (ys.take 0) ++ [.float .f64 x] ++ fltCells (ys.drop 0) = fltCells (insAt ys 0 x) := by simp [fltCells, insAt]
            have hBB : Below w.heap.size w w3 := (((HB.out.trans (hWb.mono (by have := HB.out.size; omega))).trans (hb1.mono hwW)).trans ((Below.refl _ w1).alloc (by omega) _)).trans (hb2.trans hb3)
            rw [hcs, hlen] at hC3'
            have H3 : Hid _ := hC3'
            have HBB : Hid _ := hBB
            have HLEN : Hid _ := hlen
            clear hC3 hC3' hBB hst1 hst2 hst3 hf1 hf2 hf3 hC1 hC1' hC2 hC2' hb1 hb2 hb3 hlen hcs
            go_roundw
            case rel => exact ⟨0 + 1, a3, cc3, g3, insAt ys 0 x, by omega, by go_num, by first | rfl | (congr 1 <;> omega), H3.out, HP2.out _ (insAt_perm ys 0 x), insAt_srt HYL.out hk HS.out (fun h => by omega) HHI.out, HBB.out⟩
            case measure => simp [intOf] <;> omega
          · have hwW : w.heap.size ≤ W.heap.size := Nat.le_trans HB.out.size hWb.size
            have hbW : b < W.heap.size := World.block_lt_of_cell? _ _ hcxW
            go_wp2_with (first
              | (at_builtin; refine wpList_append_cel _ rfl _ _ 23 23 rfl 22 ti (.float .f64 0) 1 8 Try.underlying23 hi1 hi2 hi3 hi4 rfl (O := fun k => w.heap.size ≤ k) _ (0 + 1) _ g2 rfl hC2' _ (i - 0) (fltCells (ys.drop 0)) rfl (src_drop hCo 0 (i - 0) _ (by omega)) (by unfold maxLen; omega) (by omega) ?_; intro a3 cc3 w3 g3 hC3 hst3 hf3)
              | (at_builtin; refine wpList_append_cel _ rfl _ _ 23 23 rfl 22 ti (.float .f64 0) 1 8 Try.underlying23 hi1 hi2 hi3 hi4 rfl (O := fun k => w.heap.size ≤ k) _ 0 _ g1 rfl (hC1'.below ((Below.refl _ _).alloc (Nat.le_refl _) _)) _ 1 [.float .f64 x] rfl (src_one w1 x) (by unfold maxLen; omega) (by omega) ?_; intro a2 cc2 w2 g2 hC2 hst2 hf2; have hw2 : w1.heap.size + 1 ≤ w2.heap.size := (by have := hst2.size; simpa using this); have hC2' := Cel.low (by simp; omega) hC2; have hb2 := below_of_stay (B := w.heap.size) hst2 (by simp; omega) (fun k hk => by have := hf1 k hk; rcases this with e | e; cases e; omega); have hCo := hCW2 _ w2 hst2)
              | (at_builtin; refine wpList_append_cel _ rfl _ _ 23 23 rfl 22 ti (.float .f64 0) 1 8 Try.underlying23 hi1 hi2 hi3 hi4 rfl (O := fun k => w.heap.size ≤ k) (.slice none 0 0) 0 [] none rfl (.nil rfl rfl rfl) _ 0 (fltCells (ys.take 0)) rfl (src_take hCW 0 hk) (by unfold maxLen; omega) (by omega) ?_; intro a1 cc1 w1 g1 hC1 hst1 hf1; have hb1 := stay_none hst1; have hw1 := hb1.size; have hcx1 := (hb1.cell (p := ⟨b, off + i, none⟩) hbW).trans hcxW; have hC1' := Cel.low hwW hC1; simp only [Nat.zero_add, List.nil_append] at hC1'; have hCW2 := fun o => out_stays (o := o) hCW hb1 hf1))
            have hC3' := Cel.low (by omega) hC3
            have hb3 := below_of_stay (B := w.heap.size) hst3 (by omega) (fun k hk => by rw [hk] at hC2'; exact hC2'.lt.2)
            have hlen : 0 + 1 + (i - 0) = i + 1 := by omega
            have hcs : fltCells (ys.take 0) ++ [.float .f64 x] ++ fltCells (ys.drop 0) = fltCells (insAt ys 0 x) := by simp [fltCells, insAt]
            have hBB : Below w.heap.size w w3 := (((HB.out.trans (hWb.mono (by have := HB.out.size; omega))).trans (hb1.mono hwW)).trans ((Below.refl _ w1).alloc (by omega) _)).trans (hb2.trans hb3)
            rw [hcs, hlen] at hC3'
            have H3 : Hid _ := hC3'
            have HBB : Hid _ := hBB
            have HLEN : Hid _ := hlen
            clear hC3 hC3' hBB hst1 hst2 hst3 hf1 hf2 hf3 hC1 hC1' hC2 hC2' hb1 hb2 hb3 hlen hcs
            go_roundw
            case rel => exact ⟨i + 1, a3, cc3, g3, insAt ys 0 x, by omega, by go_num, by first | rfl | (congr 1 <;> omega), H3.out, HP2.out _ (insAt_perm ys 0 x), insAt_srt HYL.out hk HS.out (fun h => by omega) HHI.out, HBB.out⟩
            case measure => simp [intOf] <;> omega
        · obtain ⟨k1, rfl⟩ : ∃ k1, k = k1 + 1 := ⟨k - 1, by omega⟩
          obtain ⟨g', rfl, rfl⟩ := HAD.out (by omega)
          have hk1 : k1 < (fltCells ys).length := by rw [fltCells_len, HYL.out]; omega
          have c0 : wr.cell? ⟨g', k1, none⟩ = some (.float .f64 (at0 ys k1)) := by
            have := HC.out.cell k1 hk1
            rw [HD.out]
            refine cellD ?_ d
            rw [this, at0_eq _ _ (by rw [HYL.out]; omega)]
            simp [fltCells]
          have hcx2 : wr.cell? ⟨b, off + i, none⟩ = some (.float .f64 x) := by rw [HD.out]; exact cellD hcx d
          obtain ⟨Z, hZ⟩ : ∃ Z, cmpZ (key (at0 ys k1)) (key x) = Z := ⟨_, rfl⟩
          have C0 : Hid _ := fun w => refOrder_val (at0 ys k1) x Z w (BY.out _ (memAt (by rw [HYL.out]; omega))) bx hZ
          have hg : decide ((0 : Int) < (k1 : Int) + 1) = true := decide_eq_true (by omega)
          by_cases hgt : key x < key (at0 ys k1)
          · have hZ1 : Z = 1 := by rw [← hZ]; unfold cmpZ; rw [if_neg (by omega), if_pos hgt]
            subst hZ1
            have HHI2 : Hid (∀ j, k1 ≤ j → j < i → key x < key (at0 ys j)) := fun j h1 h2 => by
              rcases Nat.eq_or_lt_of_le h1 with rfl | h1
              · exact hgt
              · exact HHI.out j h1 h2
            clear hgt hZ hk1
            generalize at0 ys k1 = v0 at *
            go_wp2
            go_quiet ((go_at_call 10; exact Calls.quiet_of_same (C0.out _)))
            go_wp2
            go_roundw
            case rel => exact ⟨k1, d + nq, by omega, by go_num, HHI2.out, by rw [HD.out, World.drewN_drewN]⟩
            case measure => simp [intOf] <;> omega
          · have hZ1 : Z ≤ 0 := by rw [← hZ]; unfold cmpZ; split <;> omega
            have HLO : Hid (key (at0 ys k1) ≤ key x) := Int.not_lt.1 hgt
            clear hgt hZ hk1
            generalize hv0 : at0 ys k1 = v0 at c0 C0
            go_wp2
            go_quiet ((go_at_call 10; exact Calls.quiet_of_same (C0.out _)))
            obtain ⟨W, hW⟩ : ∃ W, wr.drewN nq = W := ⟨_, rfl⟩
            rw [hW]
            have hWb : Below wo.heap.size wo W := by rw [← hW, HD.out, World.drewN_drewN]; exact belD _ _
            have hCW := HC.out.below hWb
            have hcxW : W.cell? ⟨b, off + i, none⟩ = some (.float .f64 x) := by rw [← hW]; exact cellD hcx2 nq
            clear hW HD c0 hcx2 C0 hv0
            have hwW : w.heap.size ≤ W.heap.size := Nat.le_trans HB.out.size hWb.size
            have hbW : b < W.heap.size := World.block_lt_of_cell? _ _ hcxW
            go_wp2_with (first
              | (at_builtin; refine wpList_append_cel _ rfl _ _ 23 23 rfl 22 ti (.float .f64 0) 1 8 Try.underlying23 hi1 hi2 hi3 hi4 rfl (O := fun k => w.heap.size ≤ k) _ ((k1 + 1) + 1) _ g2 rfl hC2' _ (i - (k1 + 1)) (fltCells (ys.drop (k1 + 1))) rfl (src_drop_if hCo (k1 + 1) (i - (k1 + 1)) _ (by omega) hle) (by unfold maxLen; omega) (by omega) ?_; intro a3 cc3 w3 g3 hC3 hst3 hf3)
              | (at_builtin; refine wpList_append_cel _ rfl _ _ 23 23 rfl 22 ti (.float .f64 0) 1 8 Try.underlying23 hi1 hi2 hi3 hi4 rfl (O := fun k => w.heap.size ≤ k) _ (k1 + 1) _ g1 rfl (hC1'.below ((Below.refl _ _).alloc (Nat.le_refl _) _)) _ 1 [.float .f64 x] rfl (src_one w1 x) (by unfold maxLen; omega) (by omega) ?_; intro a2 cc2 w2 g2 hC2 hst2 hf2; have hw2 : w1.heap.size + 1 ≤ w2.heap.size := (by have := hst2.size; simpa using this); have hC2' := Cel.low (by simp; omega) hC2; have hb2 := below_of_stay (B := w.heap.size) hst2 (by simp; omega) (fun k hk => by have := hf1 k hk; rcases this with e | e; cases e; omega); have hCo := hCW2 _ w2 hst2)
              | (at_builtin; refine wpList_append_cel _ rfl _ _ 23 23 rfl 22 ti (.float .f64 0) 1 8 Try.underlying23 hi1 hi2 hi3 hi4 rfl (O := fun k => w.heap.size ≤ k) (.slice none 0 0) 0 [] none rfl (.nil rfl rfl rfl) _ (k1 + 1) (fltCells (ys.take (k1 + 1))) rfl (src_take hCW (k1 + 1) hk) (by unfold maxLen; omega) (by omega) ?_; intro a1 cc1 w1 g1 hC1 hst1 hf1; have hb1 := stay_none hst1; have hw1 := hb1.size; have hcx1 := (hb1.cell (p := ⟨b, off + i, none⟩) hbW).trans hcxW; have hC1' := Cel.low hwW hC1; simp only [Nat.zero_add, List.nil_append] at hC1'; have hCW2 := fun o => out_stays (o := o) hCW hb1 hf1))
            have hC3' := Cel.low (by omega) hC3
            have hb3 := below_of_stay (B := w.heap.size) hst3 (by omega) (fun k hk => by rw [hk] at hC2'; exact hC2'.lt.2)
            have hlen : (k1 + 1) + 1 + (i - (k1 + 1)) = i + 1 := by omega
            have hcs : fltCells (ys.take (k1 + 1)) ++ [.float .f64 x] ++ fltCells (ys.drop (k1 + 1)) = fltCells (insAt ys (k1 + 1) x) := by simp [fltCells, insAt]
            have hBB : Below w.heap.size w w3 := (((HB.out.trans (hWb.mono (by have := HB.out.size; omega))).trans (hb1.mono hwW)).trans ((Below.refl _ w1).alloc (by omega) _)).trans (hb2.trans hb3)
            rw [hcs, hlen] at hC3'
            have H3 : Hid _ := hC3'
            have HBB : Hid _ := hBB
            have HLEN : Hid _ := hlen
            clear hC3 hC3' hBB hst1 hst2 hst3 hf1 hf2 hf3 hC1 hC1' hC2 hC2' hb1 hb2 hb3 hlen hcs
            go_roundw
            case rel => exact ⟨i + 1, a3, cc3, g3, insAt ys (k1 + 1) x, by omega, by go_num, by first | rfl | (congr 1 <;> omega), H3.out, HP2.out _ (insAt_perm ys (k1 + 1) x), insAt_srt HYL.out hk HS.out (fun _ => HLO.out) HHI.out, HBB.out⟩
            case measure => simp [intOf] <;> omega
    · obtain rfl : i = n := by omega
      have HC : Hid _ := hC
      have HP : Hid (ys.Perm xs) := by rwa [List.take_of_length_le (by rw [HN.out]; omega)] at hP
      clear hC hP
      go_wp2
      go_ret
      exact ⟨oa, oc, g, ys, rfl, HC.out, HP.out, hS, hB⟩

end Go.Proofs.Ytlgfhmedenlbcab
