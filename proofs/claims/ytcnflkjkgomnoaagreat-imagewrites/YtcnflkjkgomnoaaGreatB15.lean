/- Part 15 of the proof: TreeOrd, TreeT1, TreeT2, TreeT3, QuotaM, TreeEx. -/
import Derived.Test.YtcnflkjkgomnoaaGreatB14
import Derived.Lib.Bytealg
set_option maxRecDepth 100000
set_option maxHeartbeats 8000000
namespace Go.Proofs.YtcnflkjkgomnoaaGreat
open Go.RowKit
theorem bl_irrefl : ∀ l : List UInt8, Op.bytesLess l l = false
  | [] => rfl
  | a :: l => by
    simp only [Op.bytesLess, bl_irrefl l, Bool.and_false, Bool.or_false, decide_eq_false_iff_not]
    exact UInt8.lt_irrefl a
theorem bl_cons (a b : UInt8) (l m : List UInt8) : Op.bytesLess (a :: l) (b :: m) = true ↔ a.toNat < b.toNat ∨ (a = b ∧ Op.bytesLess l m = true) := by
  simp only [Op.bytesLess, Bool.or_eq_true, decide_eq_true_eq, Bool.and_eq_true, beq_iff_eq, UInt8.lt_iff_toNat_lt]
theorem bl_trans : ∀ a b c : List UInt8, Op.bytesLess a b = true → Op.bytesLess b c = true → Op.bytesLess a c = true
  | _, [], _, h, _ => by simp [Op.bytesLess] at h
  | _, _ :: _, [], _, h => by simp [Op.bytesLess] at h
  | [], _ :: _, _ :: _, _, _ => by simp [Op.bytesLess]
  | a :: l, b :: m, c :: n, h, k => by
    rw [bl_cons] at *
    rcases h with h | ⟨rfl, h⟩
    · rcases k with k | ⟨rfl, k⟩
      · left; omega
      · left; exact h
    · rcases k with k | ⟨rfl, k⟩
      · left; exact k
      · right; exact ⟨rfl, bl_trans l m n h k⟩
theorem bl_tri : ∀ a b : List UInt8, Op.bytesLess a b = false → Op.bytesLess b a = false → a = b
  | [], [], _, _ => rfl
  | [], _ :: _, h, _ => by simp [Op.bytesLess] at h
  | _ :: _, [], _, h => by simp [Op.bytesLess] at h
  | a :: l, b :: m, h, k => by
    rw [Bool.eq_false_iff, ne_eq, bl_cons] at h k
    have hab : a = b := by
      apply UInt8.toNat_inj.1
      have h1 : ¬ a.toNat < b.toNat := fun e => h (.inl e)
      have h2 : ¬ b.toNat < a.toNat := fun e => k (.inl e)
      omega
    subst hab; rw [bl_tri l m (by rw [Bool.eq_false_iff]; exact fun e => h (.inr ⟨rfl, e⟩)) (by rw [Bool.eq_false_iff]; exact fun e => k (.inr ⟨rfl, e⟩))]
theorem ltB_irrefl (a : ByteArray) : ltB a a = false := bl_irrefl _
theorem ltB_trans {a b c : ByteArray} (h : ltB a b = true) (k : ltB b c = true) : ltB a c = true := bl_trans _ _ _ h k
theorem ltB_asymm {a b : ByteArray} (h : ltB a b = true) : ltB b a = false := by
  rw [Bool.eq_false_iff]; intro k
  have := ltB_trans h k
  rw [ltB_irrefl] at this; cases this
theorem ltB_tri {a b : ByteArray} (h : ltB a b = false) (k : ltB b a = false) : a = b := by
  have := bl_tri _ _ h k
  rw [Lib.toList_data, Lib.toList_data] at this
  exact ba_inj this
theorem ltB_ne {a b : ByteArray} (h : ltB a b = true) : a ≠ b := by
  intro e; subst e; rw [ltB_irrefl] at h; cases h
theorem cmp_lt : ∀ l m : List UInt8, decide (Lib.compareBytes l m < 0) = Op.bytesLess l m
  | [], [] => rfl
  | [], _ :: _ => rfl
  | _ :: _, [] => rfl
  | a :: l, b :: m => by
    unfold Lib.compareBytes; by_cases h1 : a < b
    · rw [if_pos h1]
      have : Op.bytesLess (a :: l) (b :: m) = true := (bl_cons ..).2 (.inl (UInt8.lt_iff_toNat_lt.1 h1))
      rw [this]; rfl
    · rw [if_neg h1]
      rw [UInt8.lt_iff_toNat_lt] at h1
      by_cases h2 : b < a
      · rw [if_pos h2]
        have : Op.bytesLess (a :: l) (b :: m) = false := by
          rw [Bool.eq_false_iff, ne_eq, bl_cons]
          rw [UInt8.lt_iff_toNat_lt] at h2
          rintro (e | ⟨rfl, _⟩) <;> omega
        rw [this]; rfl
      · rw [if_neg h2, cmp_lt l m]
        have hab : a = b := by
          apply UInt8.toNat_inj.1
          rw [UInt8.lt_iff_toNat_lt] at h2
          omega
        subst hab; cases h3 : Op.bytesLess l m with
        | true => exact ((bl_cons ..).2 (.inr ⟨rfl, h3⟩)).symm
        | false =>
          symm
          rw [Bool.eq_false_iff, ne_eq, bl_cons]
          rintro (e | ⟨_, e⟩)
          · omega
          · rw [h3] at e; cases e
def Asc (l : NS) : Prop := l.Pairwise (fun x y => ltB x.path y.path = true)
def sortN (l : NS) : NS := l.mergeSort (fun x y => !ltB y.path x.path)
def Apart (l : NS) : Prop := l.Pairwise (fun x y => x.path ≠ y.path)
theorem Asc.apart {l : NS} (h : Asc l) : Apart l := List.Pairwise.imp (fun e => ltB_ne e) h
theorem Apart.perm {l m : NS} (h : Apart l) (p : l.Perm m) : Apart m := (p.pairwise_iff (fun {_ _} e => e.symm)).1 h
theorem dirE_ex {xs : NS} {p : ByteArray} (h : dirE xs p = 0) : ∃ x ∈ xs, x.path = p ∧ x.dir = true := by
  unfold dirE at h; cases e : at? xs p with
  | none => rw [e] at h; cases h
  | some i =>
    obtain ⟨hi, h1, _⟩ := at_some e
    rw [e] at h
    refine ⟨_, List.getElem_mem hi, h1, ?_⟩
    cases hd : xs[i].dir with
    | true => rfl
    | false => simp [List.getElem?_eq_getElem hi, hd] at h
theorem Apart.same {xs : NS} (h : Apart xs) {x y : Nd} (hx : x ∈ xs) (hy : y ∈ xs) (e : x.path = y.path) : x = y := by
  obtain ⟨i, hi, rfl⟩ := List.getElem_of_mem hx
  obtain ⟨j, hj, rfl⟩ := List.getElem_of_mem hy
  unfold Apart at h; rw [List.pairwise_iff_getElem] at h
  rcases Nat.lt_trichotomy i j with hij | hij | hij
  · exact absurd e (h i j hi hj hij)
  · subst hij; rfl
  · exact absurd e.symm (h j i hj hi hij)
theorem dirE_of {xs : NS} (ha : Apart xs) {x : Nd} (hx : x ∈ xs) : dirE xs x.path = if x.dir then 0 else 7 := by
  unfold dirE; cases e : at? xs x.path with
  | none => exact absurd rfl (at_none e x hx)
  | some i =>
    obtain ⟨hi, h1, _⟩ := at_some e
    have := ha.same (List.getElem_mem hi) hx h1
    simp [List.getElem?_eq_getElem hi, this]
theorem dirE_zero {xs : NS} (ha : Apart xs) {p : ByteArray} : dirE xs p = 0 ↔ ∃ x ∈ xs, x.path = p ∧ x.dir = true := by
  constructor
  · exact dirE_ex
  · rintro ⟨x, hx, rfl, hd⟩
    rw [dirE_of ha hx, hd]; rfl
theorem root_split : splitN rootP = [] ∧ splitE rootP = 0 := exR0
theorem path_eq {p q : ByteArray} (hp : splitE p = 0) (hq : splitE q = 0) (h : splitN p = splitN q) : p = q := by rw [splitX_ok hp, splitX_ok hq, h]
theorem names_root {p : ByteArray} (h : splitE p = 0) (hn : splitN p = []) : p = rootP := path_eq h root_split.2 (by rw [hn, root_split.1])
theorem pathL_ltB_root {p : ByteArray} (h : splitE p = 0) (hr : p ≠ rootP) : ltB rootP p = true := by
  have hp := splitX_ok h
  have hne : splitN p ≠ [] := fun e => hr (names_root h e)
  cases hN : splitN p with
  | nil => exact absurd hN hne
  | cons n ns =>
    have hn : nameB n = true := (split_ok h).1.names n (by rw [hN]; simp)
    rw [hp, hN, pathT_ne (by simp)]
    unfold ltB; rw [Lib.toList_data, Lib.toList_data, mk_list, pathL_cons]
    show Op.bytesLess [47] (47 :: (n.data.toList ++ pathL ns)) = true
    rw [bl_cons]
    right
    refine ⟨rfl, ?_⟩
    have hl := nameL_len hn
    cases hd : n.data.toList with
    | nil => rw [hd] at hl; simp at hl
    | cons b l => simp [Op.bytesLess]
theorem right_of {ys : NS} (ha : Asc ys) (hfew : ys.length ≤ 60) (hroot : ∃ x ∈ ys, x.path = rootP) (hfit : ∀ x ∈ ys, fitsB x = true) (hpar : ∀ x ∈ ys, x.path ≠ rootP → ∃ y ∈ ys, y.path = parD x.path ∧ y.dir = true) : Right ys := by
  obtain ⟨r, hr, hrp⟩ := hroot
  have hpos : 0 < ys.length := List.length_pos_of_mem hr
  have hg := ha
  unfold Asc at hg; rw [List.pairwise_iff_getElem] at hg
  have h0 : ys[0].path = rootP := by
    obtain ⟨j, hj, hjr⟩ := List.getElem_of_mem hr
    rcases Nat.eq_zero_or_pos j with rfl | hjp
    · rw [hjr]; exact hrp
    · have h1 := hg 0 j hpos hj hjp
      rw [hjr, hrp] at h1
      by_cases e : ys[0].path = rootP
      · exact e
      · have h2 := pathL_ltB_root (fits_path (hfit _ (List.getElem_mem hpos))) e
        rw [ltB_asymm h1] at h2; cases h2
  refine ⟨hpos, hfew, fun _ => h0, hfit, fun i hi => hg i (i + 1) _ hi (by omega), fun i hi hip => ?_⟩
  have hne : ys[i].path ≠ rootP := by
    intro e
    have := hg 0 i hpos hi hip
    rw [h0, e, ltB_irrefl] at this; cases this
  exact (dirE_zero ha.apart).2 (hpar _ (List.getElem_mem hi) hne)
def movL (xs : NS) (f t : ByteArray) : NS := sortN (xs.filter (stayB f t) ++ (xs.filter (goesB f)).map (movN f t))
section
variable {xs : NS} {f t : ByteArray}
end
theorem inB_iff {p : ByteArray} {x : Nd} : inB p x = true ↔ ∃ n, parentX x.path = (p, n, 0) := by
  unfold inB parD; rw [Bool.and_eq_true, decide_eq_true_eq, decide_eq_true_eq]
  obtain ⟨⟨d, n, E⟩, h⟩ : ∃ y, parentX x.path = y := ⟨_, rfl⟩
  rw [h]
  constructor
  · rintro ⟨h1, h2⟩
    simp only at h1 h2
    subst h1 h2; exact ⟨n, rfl⟩
  · rintro ⟨m, e⟩
    cases e
    exact ⟨rfl, rfl⟩
def cntL (xs : NS) (p : ByteArray) : Nat := (xs.filter (fun x => underB p x.path)).length
def upL (N : List ByteArray) (k : Nat) : List ByteArray := (List.range k).map (fun j => pathT (N.take (N.length - j)))
theorem upL_succ (N : List ByteArray) (k : Nat) : upL N (k + 1) = upL N k ++ [pathT (N.take (N.length - k))] := by
  unfold upL; rw [List.range_succ, List.map_append]; rfl
theorem upL_len (N : List ByteArray) (k : Nat) : (upL N k).length = k := by unfold upL; simp
def cntT (ss : List ByteArray) (q : ByteArray) : Nat := (ss.filter (fun s => decide (s = q))).length
theorem cntT_app (a b : List ByteArray) (q : ByteArray) : cntT (a ++ b) q = cntT a q + cntT b q := by unfold cntT; rw [List.filter_append, List.length_append]
theorem cntT_one (s q : ByteArray) : cntT [s] q = if s = q then 1 else 0 := by
  unfold cntT; by_cases h : s = q <;> simp [h]
theorem up_inj {N : List ByteArray} (g : Good N) {i j : Nat} (hi : i ≤ N.length) (hj : j ≤ N.length) (h : pathT (N.take (N.length - i)) = pathT (N.take (N.length - j))) : i = j := by
  have e := congrArg splitN h
  rw [splitN_good (good_take g _), splitN_good (good_take g _)] at e
  have := congrArg List.length e
  rw [List.length_take, List.length_take] at this
  omega
theorem up_count {N : List ByteArray} (g : Good N) (q : ByteArray) : ∀ k, k ≤ N.length + 1 → cntT (upL N k) q = if ∃ j, j < k ∧ pathT (N.take (N.length - j)) = q then 1 else 0
  | 0, _ => by
    rw [if_neg (by rintro ⟨j, hj, _⟩; omega)]; rfl
  | k + 1, hk => by
    rw [upL_succ, cntT_app, up_count g q k (by omega), cntT_one]
    by_cases h : pathT (N.take (N.length - k)) = q
    · have hn : ¬ ∃ j, j < k ∧ pathT (N.take (N.length - j)) = q := by
        rintro ⟨j, hj, e⟩; have := up_inj g (by omega) (by omega) (e.trans h.symm)
        omega
      rw [if_neg hn, if_pos h, if_pos ⟨k, by omega, h⟩]
    · rw [if_neg h, Nat.add_zero]
      by_cases hx : ∃ j, j < k ∧ pathT (N.take (N.length - j)) = q
      · obtain ⟨j, hj, e⟩ := hx
        rw [if_pos ⟨j, hj, e⟩, if_pos ⟨j, by omega, e⟩]
      · rw [if_neg hx, if_neg]
        rintro ⟨j, hj, e⟩; rcases Nat.lt_or_ge j k with h1 | h1
        · exact hx ⟨j, h1, e⟩
        · obtain rfl : j = k := by omega
          exact h e
theorem par_last {p d : ByteArray} (h : splitE p = 0) {m : Nat} (hl : (splitN p).length = m + 1) (hd : pathT ((splitN p).take m) = d) : ∃ n, parentX p = (d, n, 0) := by
  refine ⟨(splitN p)[m], ?_⟩
  rw [parentX_last h hl, hd]
def lineL (p : ByteArray) : List ByteArray := upL (splitN p) ((splitN p).length + 1)
theorem line_count {p : ByteArray} (h : splitE p = 0) (q : ByteArray) : cntT (lineL p) q = if underB q p then 1 else 0 := by
  have g := (split_ok h).1
  unfold lineL; rw [up_count g q _ (Nat.le_refl _)]
  have e : (∃ j, j < (splitN p).length + 1 ∧ pathT ((splitN p).take ((splitN p).length - j)) = q) ↔ underB q p = true := by
    rw [underB_iff]
    constructor
    · rintro ⟨j, hj, rfl⟩
      have g2 := good_take g ((splitN p).length - j)
      exact ⟨splitE_good g2, h, by rw [splitN_good g2]; exact List.take_prefix _ _⟩
    · rintro ⟨h1, _, h3⟩
      have hl := h3.length_le
      refine ⟨(splitN p).length - (splitN q).length, by omega, ?_⟩
      rw [show (splitN p).length - ((splitN p).length - (splitN q).length) = (splitN q).length by omega, ← List.prefix_iff_eq_take.1 h3, ← splitX_ok h1]
  by_cases hu : underB q p = true
  · rw [if_pos (e.2 hu), if_pos hu]
  · rw [if_neg (fun x => hu (e.1 x)), if_neg hu]
theorem line_len (p : ByteArray) : (lineL p).length = (splitN p).length + 1 := upL_len _ _
theorem line_few (p : ByteArray) : (lineL p).length ≤ 7 := by rw [line_len]; have := @split_few p; omega
theorem line_small {p : ByteArray} (h : splitE p = 0) : ∀ s ∈ lineL p, s.size ≤ 120 := by
  intro s hs
  unfold lineL upL at hs; obtain ⟨j, _, rfl⟩ := List.mem_map.1 hs
  exact pathT_small (good_take (split_ok h).1 _)
theorem cnt_app (xs ys : NS) (p : ByteArray) : cntL (xs ++ ys) p = cntL xs p + cntL ys p := by unfold cntL; rw [List.filter_append, List.length_append]
theorem cnt_one (x : Nd) (p : ByteArray) : cntL [x] p = if underB p x.path then 1 else 0 := by
  unfold cntL; cases h : underB p x.path <;> simp [h]
theorem cnt_le (xs : NS) (p : ByteArray) : cntL xs p ≤ xs.length := List.length_filter_le _ _
theorem cnt_succ {xs : NS} {i : Nat} (hi : i < xs.length) (h : splitE xs[i].path = 0) (p : ByteArray) : cntL (xs.take (i + 1)) p = cntL (xs.take i) p + cntT (lineL xs[i].path) p := by
  rw [List.take_succ_eq_append_getElem hi, cnt_app, cnt_one, line_count h]
def overB (xs : NS) (x : Nd) : Bool := decide (0 ≤ x.quota) && decide (x.quota < (cntL xs x.path : Int))
def overL (xs : NS) : List ByteArray := (xs.filter (overB xs)).map (·.path)
def roomS (xs : NS) (p : ByteArray) (r : Int) (x : Nd) : Int := if 0 ≤ x.quota ∧ underB x.path p = true then min r (x.quota - (cntL xs x.path : Int)) else r
def roomF (xs : NS) (p : ByteArray) (r : Int) (l : NS) : Int := l.foldl (roomS xs p) r
def roomI (xs : NS) (p : ByteArray) : Int := if dirE xs p = 0 then max (roomF xs p (60 - (xs.length : Int)) xs) 0 else 0
theorem quota_dir {xs : NS} (h : Right xs) {x : Nd} (hx : x ∈ xs) (hq : 0 ≤ x.quota) : x.dir = true := by
  have hf := h.fit x hx
  cases hd : x.dir with
  | true => rfl
  | false =>
    unfold fitsB at hf; rw [hd] at hf
    simp only [Bool.and_eq_true, Bool.false_eq_true, if_false] at hf
    have := hf.2
    unfold fileB headB at this; simp only [Bool.and_eq_true, decide_eq_true_eq] at this
    have := this.1.1.1.2
    omega
theorem quota_most {xs : NS} (h : Right xs) {x : Nd} (hx : x ∈ xs) : -1 ≤ x.quota ∧ x.quota ≤ 9007199254740991 := by
  have hf := h.fit x hx
  unfold fitsB at hf; cases hd : x.dir with
  | true =>
    rw [hd] at hf
    simp only [Bool.and_eq_true, if_true] at hf
    have := hf.2
    unfold dirB at this; simp only [Bool.and_eq_true, decide_eq_true_eq] at this
    exact this.2
  | false =>
    rw [hd] at hf
    simp only [Bool.and_eq_true, Bool.false_eq_true, if_false] at hf
    have := hf.2
    unfold fileB headB at this; simp only [Bool.and_eq_true, decide_eq_true_eq] at this
    have := this.1.1.1.2
    omega
end Go.Proofs.YtcnflkjkgomnoaaGreat
