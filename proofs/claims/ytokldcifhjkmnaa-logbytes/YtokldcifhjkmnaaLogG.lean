/- The contracts of takePart, takeEpoch, takeEntry. -/
import Derived.Test.YtokldcifhjkmnaaLogE
namespace Go.Proofs.Ytokldcifhjkmnaa.Lgg
open Go.RowKit Go.Proofs.Ytokldcifhjkmnaa
open Go.Proofs.Ytokldcifhjkmnaa.Wir (takeZ takeNumV takeNumV_no takeNumV_yes takeNum_val)
open Go.Proofs.Ytokldcifhjkmnaa.Smm (openT openT_cases takeT_size open_any bytes_ne)
set_option linter.unusedVariables false

theorem is_empty {r : ByteArray} {v : Bool} (h : decide (r.size = 0) = v) : r.toList.isEmpty = v := by
  rw [← h, Lib.toList_data]
  have hl : r.data.toList.length = r.size := Array.length_toList
  cases hd : r.data.toList with
  | nil => rw [hd] at hl; simp at hl; simp [← hl]
  | cons x y => rw [hd] at hl; simp at hl; simp [← hl]
theorem two_set {w : World} {R : Nat} {u v u' v' : Value} (h0 : w.cell? ⟨R, 0, none⟩ = some u) (h1 : w.cell? ⟨R, 1, none⟩ = some v) : ((w.setCell ⟨R, 0, none⟩ u').setCell ⟨R, 1, none⟩ v').cell? ⟨R, 0, none⟩ = some u' ∧ ((w.setCell ⟨R, 0, none⟩ u').setCell ⟨R, 1, none⟩ v').cell? ⟨R, 1, none⟩ = some v' :=
  ⟨cell_set (by omega) (World.cell?_setCell_same _ _ _ h0), World.cell?_setCell_same _ _ _ (cell_set (by omega) h1)⟩
theorem openT_size {b T R : ByteArray} {E : Nat} (h : openT b = (T, R, E)) : T.size ≤ 4000 ∧ R.size ≤ b.size := by
  rcases openT_cases b with ⟨_, h1⟩ | ⟨t, r, hT, h1⟩
  · rw [h] at h1; cases h1; exact ⟨by show 0 ≤ 4000; omega, Nat.zero_le _⟩
  · have hs := takeT_size hT
    rcases h1 with ⟨_, h1⟩ | ⟨_, _, h1⟩ | ⟨_, _, h1⟩
    · rw [h] at h1; cases h1; exact ⟨by show 0 ≤ 4000; omega, Nat.zero_le _⟩
    · rw [h] at h1
      cases h1
      refine ⟨hs.1, ?_⟩
      rw [ByteArray.size_extract]; omega
    · rw [h] at h1; cases h1; exact ⟨by show 0 ≤ 4000; omega, Nat.zero_le _⟩
theorem takeP_size {b d r : ByteArray} {n : Int} (h : takeP b = some (n, d, r)) : d.size ≤ 4000 ∧ r.size ≤ b.size := by
  unfold takeP at h
  split at h
  · rename_i T R hO
    have h1 := openT_size hO
    split at h
    · rename_i z k hz
      simp only [Option.some.injEq, Prod.mk.injEq] at h
      obtain ⟨_, rfl, rfl⟩ := h
      exact ⟨by rw [ByteArray.size_extract]; omega, h1.2⟩
    · cases h
  · cases h

set_option maxRecDepth 100000 in
set_option maxHeartbeats 1000000 in
theorem takePart_yes (b : ByteArray) (hb : b.size ≤ maxLen) (n : Int) (d r : ByteArray) (h : takeP b = some (n, d, r)) (w : World) :
    Calls Try.prog 65 #[.string b] w fun e w' => e = .returned (.tuple #[.int .i64 n, .string d, .string r]) ∧ Below w.heap.size w w' := by
  unfold takeP at h
  obtain ⟨T, R, E, hO⟩ : ∃ T R E, openT b = (T, R, E) := ⟨_, _, _, rfl⟩
  have hsz := openT_size hO
  rw [hO] at h
  cases E with
  | succ E => cases h
  | zero =>
    simp only at h
    split at h
    · rename_i z k hz
      simp only [Option.some.injEq, Prod.mk.injEq] at h
      obtain ⟨rfl, rfl, rfl⟩ := h
      have HO : Hid (Calls Try.prog 76 #[.string b] w fun e w' => e = .returned (.tuple #[.string T, .string R, .int .i64 0]) ∧ Below w.heap.size w w') := open_any b T R 0 w hb hO
      have HT : Hid (∀ W, Calls Try.prog 77 #[.string T] W fun e w' => e = .returned (.tuple #[.int .i64 (Lib.unzigzag z), .string (T.extract k T.size), .int .i64 0]) ∧ Below W.heap.size W w') := fun W => takeNum_val T _ W (by unfold maxLen; omega) (takeNumV_yes hz)
      have HY : Hid (∀ W, Calls Try.prog 66 #[.bool true] W fun e w' => e = .returned (.tuple #[]) ∧ w' = W) := need_yes
      clear hO hsz hz
      generalize Lib.unzigzag z = N at *
      generalize T.extract k T.size = D at *
      go_enter Try.func65, Try.ntmps65
      go_wp2_with (first
        | (go_at_call 76; refine HO.out.mono ?_; rintro e w1 ⟨rfl, b1⟩; have B1 : Hid (Below w.heap.size w w1) := b1; clear b1)
        | (go_at_call 66; refine (HY.out _).mono ?_; rintro e wy ⟨rfl, rfl⟩)
        | (go_at_call 77; refine (HT.out _).mono ?_; rintro e w2 ⟨rfl, b2⟩; have B2 : Hid (Below w.heap.size w w2) := bel_tr B1.out b2; clear b2))
      go_ret3
      exact ⟨rfl, B2.out⟩
    · cases h

set_option maxRecDepth 100000 in
set_option maxHeartbeats 1000000 in
theorem takePart_no (b : ByteArray) (hb : b.size ≤ maxLen) (h : takeP b = none) (w : World) :
    Calls Try.prog 65 #[.string b] w fun e w' => e = leftV ∧ Below w.heap.size w w' := by
  unfold takeP at h
  obtain ⟨T, R, E, hO⟩ : ∃ T R E, openT b = (T, R, E) := ⟨_, _, _, rfl⟩
  have hsz := openT_size hO
  rw [hO] at h
  have HY : Hid (∀ W, Calls Try.prog 66 #[.bool true] W fun e w' => e = .returned (.tuple #[]) ∧ w' = W) := need_yes
  have HF : Hid (∀ W, Calls Try.prog 66 #[.bool false] W fun e w' => e = leftV ∧ w' = W) := need_no
  cases E with
  | succ E =>
    have HO : Hid (Calls Try.prog 76 #[.string b] w fun e w' => e = .returned (.tuple #[.string T, .string R, .int .i64 ((E + 1 : Nat) : Int)]) ∧ Below w.heap.size w w') := open_any b T R (E + 1) w hb hO
    obtain ⟨Z, hZ⟩ : ∃ Z : Int, ((E + 1 : Nat) : Int) = Z := ⟨_, rfl⟩
    have hz0 : ¬ Z = 0 := by omega
    have hzb : (Z == 0) = false := beq_eq_false_iff_ne.2 hz0
    have hzd : decide (Z = 0) = false := decide_eq_false hz0
    rw [hZ] at HO
    clear hO hsz h hZ HY
    go_enter Try.func65, Try.ntmps65
    go_wp2_with (first
      | (go_at_call 76; refine HO.out.mono ?_; rintro e w1 ⟨rfl, b1⟩; have B1 : Hid (Below w.heap.size w w1) := b1; clear b1)
      | (go_at_call 66; refine (HF.out _).mono ?_; rintro e wy ⟨rfl, rfl⟩))
    exact ⟨rfl, rfl, B1.out⟩
  | zero =>
    simp only at h
    split at h
    · cases h
    · rename_i hz
      have HO : Hid (Calls Try.prog 76 #[.string b] w fun e w' => e = .returned (.tuple #[.string T, .string R, .int .i64 0]) ∧ Below w.heap.size w w') := open_any b T R 0 w hb hO
      have HT : Hid (∀ W, Calls Try.prog 77 #[.string T] W fun e w' => e = .returned (.tuple #[.int .i64 0, .string ⟨#[]⟩, .int .i64 2]) ∧ Below W.heap.size W w') := fun W => takeNum_val T _ W (by unfold maxLen; omega) (takeNumV_no hz)
      clear hO hsz hz h
      go_enter Try.func65, Try.ntmps65
      go_wp2_with (first
        | (go_at_call 76; refine HO.out.mono ?_; rintro e w1 ⟨rfl, b1⟩; have B1 : Hid (Below w.heap.size w w1) := b1; clear b1)
        | (go_at_call 66; refine (HY.out _).mono ?_; rintro e wy ⟨rfl, rfl⟩)
        | (go_at_call 66; refine (HF.out _).mono ?_; rintro e wy ⟨rfl, rfl⟩)
        | (go_at_call 77; refine (HT.out _).mono ?_; rintro e w2 ⟨rfl, b2⟩; have B2 : Hid (Below w.heap.size w w2) := bel_tr B1.out b2; clear b2))
      exact ⟨rfl, rfl, B2.out⟩

set_option maxRecDepth 100000 in
set_option maxHeartbeats 1000000 in
theorem takeEpoch_yes (b : ByteArray) (hb : b.size ≤ maxLen) (n : Int) (r : ByteArray) (h : epochP b = some (n, r)) (w : World) :
    Calls Try.prog 44 #[.string b] w fun e w' => e = .returned (.tuple #[.int .i64 n, .string r]) ∧ Below w.heap.size w w' := by
  unfold epochP at h
  split at h
  · rename_i n' d r' hP
    split at h
    · rename_i hc
      cases h
      obtain rfl : d = ⟨#[]⟩ := by
        apply Go.WideShapes.bytes_inj
        have : d.data.toList.length = 0 := by rw [Wir.size_list]; exact hc.2
        rw [List.length_eq_zero_iff.1 this]
      have HP : Hid (Calls Try.prog 65 #[.string b] w fun e w' => e = .returned (.tuple #[.int .i64 n, .string ⟨#[]⟩, .string r]) ∧ Below w.heap.size w w') := takePart_yes b hb n _ r hP w
      have HE : Hid (∀ W, Calls Try.prog 32 #[.int .i64 n] W fun e w' => e = .returned (.bool true) ∧ w' = W) := fun W => mayBeEpoch_val n true W hc.1
      have HY : Hid (∀ W, Calls Try.prog 66 #[.bool true] W fun e w' => e = .returned (.tuple #[]) ∧ w' = W) := need_yes
      clear hP hc
      go_enter Try.func44, Try.ntmps44
      go_wp2_with (first
        | (go_at_call 65; refine HP.out.mono ?_; rintro e w1 ⟨rfl, b1⟩; have B1 : Hid (Below w.heap.size w w1) := b1; clear b1)
        | (go_at_call 32; refine (HE.out _).mono ?_; rintro e wy ⟨rfl, rfl⟩)
        | (go_at_call 66; refine (HY.out _).mono ?_; rintro e wy ⟨rfl, rfl⟩))
      go_ret2
      exact ⟨rfl, B1.out⟩
    · cases h
  · cases h

set_option maxRecDepth 100000 in
set_option maxHeartbeats 1000000 in
theorem takeEpoch_no (b : ByteArray) (hb : b.size ≤ maxLen) (h : epochP b = none) (w : World) :
    Calls Try.prog 44 #[.string b] w fun e w' => e = leftV ∧ Below w.heap.size w w' := by
  unfold epochP at h
  have HF : Hid (∀ W, Calls Try.prog 66 #[.bool false] W fun e w' => e = leftV ∧ w' = W) := need_no
  split at h
  · rename_i n d r hP
    split at h
    · cases h
    · rename_i hc
      have hsz := takeP_size hP
      have HP : Hid (Calls Try.prog 65 #[.string b] w fun e w' => e = .returned (.tuple #[.int .i64 n, .string d, .string r]) ∧ Below w.heap.size w w') := takePart_yes b hb n d r hP w
      cases he : epOk n with
      | false =>
        have HE : Hid (∀ W, Calls Try.prog 32 #[.int .i64 n] W fun e w' => e = .returned (.bool false) ∧ w' = W) := fun W => mayBeEpoch_val n false W he
        clear hP hc he h hsz
        go_enter Try.func44, Try.ntmps44
        go_wp2_with (first
          | (go_at_call 65; refine HP.out.mono ?_; rintro e w1 ⟨rfl, b1⟩; have B1 : Hid (Below w.heap.size w w1) := b1; clear b1)
          | (go_at_call 32; refine (HE.out _).mono ?_; rintro e wy ⟨rfl, rfl⟩)
          | (go_at_call 66; refine (HF.out _).mono ?_; rintro e wy ⟨rfl, rfl⟩))
        exact ⟨rfl, rfl, B1.out⟩
      | true =>
        have HE : Hid (∀ W, Calls Try.prog 32 #[.int .i64 n] W fun e w' => e = .returned (.bool true) ∧ w' = W) := fun W => mayBeEpoch_val n true W he
        have hne : ¬ d = ⟨#[]⟩ := fun e => hc ⟨he, by rw [e]; rfl⟩
        have hbe := bytes_ne hne
        have hie : d.toList.isEmpty = false := is_empty (decide_eq_false (fun e => hc ⟨he, e⟩))
        clear hP hc he h hsz
        go_enter Try.func44, Try.ntmps44
        go_wp2_with (first
          | (go_at_call 65; refine HP.out.mono ?_; rintro e w1 ⟨rfl, b1⟩; have B1 : Hid (Below w.heap.size w w1) := b1; clear b1)
          | (go_at_call 32; refine (HE.out _).mono ?_; rintro e wy ⟨rfl, rfl⟩)
          | (go_at_call 66; refine (HF.out _).mono ?_; rintro e wy ⟨rfl, rfl⟩))
        exact ⟨rfl, rfl, B1.out⟩
  · rename_i hP
    have HP : Hid (Calls Try.prog 65 #[.string b] w fun e w' => e = leftV ∧ Below w.heap.size w w') := takePart_no b hb hP w
    clear hP h
    go_enter Try.func44, Try.ntmps44
    go_wp2_with (go_at_call 65; refine HP.out.mono ?_; rintro e w1 ⟨rfl, b1⟩; have B1 : Hid (Below w.heap.size w w1) := b1; clear b1)
    exact ⟨rfl, rfl, B1.out⟩

set_option maxRecDepth 100000 in
set_option maxHeartbeats 1000000 in
theorem takeEntry_yes (b : ByteArray) (hb : b.size ≤ maxLen) (i : Int) (d r : ByteArray) (h : entryP b i = some (d, r)) (w : World) :
    Calls Try.prog 46 #[.string b, .int .i64 i] w fun e w' => e = .returned (.tuple #[.agg #[.int .i64 i, .string d], .string r]) ∧ Below w.heap.size w w' := by
  unfold entryP at h
  split at h
  · rename_i n' d' r' hP
    split at h
    · rename_i hc
      cases h
      obtain ⟨rfl, hd⟩ := hc
      have HP : Hid (∀ W, Calls Try.prog 65 #[.string b] W fun e w' => e = .returned (.tuple #[.int .i64 n', .string d, .string r]) ∧ Below W.heap.size W w') := fun W => takePart_yes b hb n' d r hP W
      have HE : Hid (∀ W, Calls Try.prog 33 #[.string d] W fun e w' => e = .returned (.bool true) ∧ w' = W) := fun W => mayBeData_val d true W (by unfold maxLen; omega) (decide_eq_true hd)
      have HY : Hid (∀ W, Calls Try.prog 66 #[.bool true] W fun e w' => e = .returned (.tuple #[]) ∧ w' = W) := need_yes
      have hst := fun (w : World) (a : Addr) (x : ByteArray) (m : Mode) => run_store (P := Try.prog) w a (.string x) m rfl
      clear hP hd
      go_enter Try.func46, Try.ntmps46
      go_wp2_with (first
        | (go_at_call 65; refine (HP.out _).mono ?_; rintro e w1 ⟨rfl, b1⟩; have x0 := bel_cell b1 (World.cell?_alloc_new w _ _ 0); have x1 := bel_cell b1 (World.cell?_alloc_new w _ _ 1); have f0 := (World.frozen?_of_block (a := ⟨w.heap.size, 0, none⟩) (b1.block w.heap.size (by simp))).trans (World.frozen?_alloc_new w _ _ 0); have f1 := (World.frozen?_of_block (a := ⟨w.heap.size, 1, none⟩) (b1.block w.heap.size (by simp))).trans (World.frozen?_alloc_new w _ _ 1); have B1 : Hid (Below w.heap.size w w1) := bel_tr (bel_al _ _) b1; clear b1)
        | (go_at_call 33; refine (HE.out _).mono ?_; rintro e wy ⟨rfl, rfl⟩)
        | (go_at_call 66; refine (HY.out _).mono ?_; rintro e wy ⟨rfl, rfl⟩))
      obtain ⟨y0, y1⟩ := two_set (u' := .int .i64 n') (v' := .string d) x0 x1
      refine bodyPost_ret (v := .tuple #[.agg #[.int .i64 n', .string d], .string r]) ?_ rfl ⟨rfl, ?_⟩
      · simp only [results, Try.results46]
        simp [go_sem, y0, y1]
      · exact Below.setCell (Below.setCell B1.out (Nat.le_refl _) _) (Nat.le_refl _) _
    · cases h
  · cases h

set_option maxRecDepth 100000 in
set_option maxHeartbeats 1000000 in
theorem takeEntry_no (b : ByteArray) (hb : b.size ≤ maxLen) (i : Int) (h : entryP b i = none) (w : World) :
    Calls Try.prog 46 #[.string b, .int .i64 i] w fun e w' => e = leftV ∧ Below w.heap.size w w' := by
  unfold entryP at h
  have HF : Hid (∀ W, Calls Try.prog 66 #[.bool false] W fun e w' => e = leftV ∧ w' = W) := need_no
  split at h
  · rename_i n d r hP
    split at h
    · cases h
    · rename_i hc
      have hsz := takeP_size hP
      have HP : Hid (∀ W, Calls Try.prog 65 #[.string b] W fun e w' => e = .returned (.tuple #[.int .i64 n, .string d, .string r]) ∧ Below W.heap.size W w') := fun W => takePart_yes b hb n d r hP W
      by_cases he : n = i
      · have HE : Hid (∀ W, Calls Try.prog 33 #[.string d] W fun e w' => e = .returned (.bool false) ∧ w' = W) := fun W => mayBeData_val d false W (by unfold maxLen; omega) (decide_eq_false (fun hd => hc ⟨he, hd⟩))
        subst he
        clear hP hc h hsz
        go_enter Try.func46, Try.ntmps46
        go_wp2_with (first
          | (go_at_call 65; refine (HP.out _).mono ?_; rintro e w1 ⟨rfl, b1⟩; have B1 : Hid (Below w.heap.size w w1) := bel_tr (bel_al _ _) b1; clear b1)
          | (go_at_call 33; refine (HE.out _).mono ?_; rintro e wy ⟨rfl, rfl⟩)
          | (go_at_call 66; refine (HF.out _).mono ?_; rintro e wy ⟨rfl, rfl⟩))
        exact ⟨rfl, rfl, B1.out⟩
      · clear hP hc h hsz
        go_enter Try.func46, Try.ntmps46
        go_wp2_with (first
          | (go_at_call 65; refine (HP.out _).mono ?_; rintro e w1 ⟨rfl, b1⟩; have B1 : Hid (Below w.heap.size w w1) := bel_tr (bel_al _ _) b1; clear b1)
          | (go_at_call 66; refine (HF.out _).mono ?_; rintro e wy ⟨rfl, rfl⟩))
        exact ⟨rfl, rfl, B1.out⟩
  · rename_i hP
    have HP : Hid (∀ W, Calls Try.prog 65 #[.string b] W fun e w' => e = leftV ∧ Below W.heap.size W w') := fun W => takePart_no b hb hP W
    clear hP h
    go_enter Try.func46, Try.ntmps46
    go_wp2_with (go_at_call 65; refine (HP.out _).mono ?_; rintro e w1 ⟨rfl, b1⟩; have B1 : Hid (Below w.heap.size w w1) := bel_tr (bel_al _ _) b1; clear b1)
    exact ⟨rfl, rfl, B1.out⟩

end Go.Proofs.Ytokldcifhjkmnaa.Lgg
