/- Part 14 of the proof: DiskF2, DiskF3, DiskF4, DiskF5. -/
import Derived.Test.YtfmhmokbbkliaaaGreatB12
import Derived.Test.YtfmhmokbbkliaaaGreatB13

/- The contracts of disk.refuseAppend, refuseRename. -/
namespace Go.Proofs.YtfmhmokbbkliaaaGreat
open Go.RowKit

theorem bel_tr {a b c : World} (h : Below a.heap.size a b) (k : Below b.heap.size b c) : Below a.heap.size a c := h.trans (k.mono h.size)

section
variable {O : Nat → Prop} {w : World} {pd b : Nat} {V : List UInt8 → Value} {B : List UInt8 → Option Nat} {room fuse : Int} {down : Bool} {S : FS}

theorem look_any (h : DA O w pd b V B room fuse down S) (n : List UInt8) :
    ∃ a L c sy, (dm V S).atKey (.string n) (.held (.agg #[.slice none 0 0, .int .i64 0])) = .held (.agg #[.slice a L c, .int .i64 sy]) ∧ L = flen (fget S n) ∧ L ≤ 400000 := by
  rw [dm_at]
  cases hf : fget S n with
  | none => exact ⟨none, 0, 0, 0, rfl, rfl, by omega⟩
  | some f =>
    obtain ⟨a, c, h1, _⟩ := h.at hf
    exact ⟨a, f.1.length, c, f.2, by rw [h1]; rfl, rfl, (h.data _ (fget_mem hf)).1⟩

set_option maxRecDepth 100000 in
set_option maxHeartbeats 1000000 in
theorem refuseAppend_val (h : DA O w pd b V B room fuse down S) (s d : ByteArray) (hs : s.size ≤ maxLen) (hd : d.size ≤ 140737488355328) (q : Int) (hq : refA ⟨room, fuse, down, S⟩ s.data.toList d.data.toList = q) :
    Calls Tryz.prog 79 #[.pointer (some ⟨pd, 0, none⟩), .string s, .string d] w fun e w' => e = .returned (.int .i64 q) ∧ Below w.heap.size w w' := by
  have hdl : d.data.toList.length = d.size := Array.length_toList
  unfold refA at hq
  simp only [hdl] at hq
  have c0 := h.c0
  have c1 := h.c1
  have hown := h.own
  have hkey := WideMaps.keyOf_string_mk (P := Tryz.prog) Tryz.underlying9 hs
  cases hn : nameOk s.data.toList with
  | false =>
    rw [hn] at hq
    simp at hq
    subst hq
    have C1 : Hid _ := fun w => isName_val s false w hs hn
    clear h hown hkey c0 c1 hs hd hdl hn
    go_enter Tryz.func79, Tryz.ntmps79
    go_wp2_with (go_at_call 119; refine (C1.out _).mono ?_; rintro e w1 ⟨rfl, rfl⟩)
    go_ret
    exact ⟨rfl, Below.refl _ _⟩
  | true =>
    rw [hn] at hq
    have C1 : Hid _ := fun w => isName_val s true w hs hn
    obtain ⟨a, L, c, sy, hat, hL, hL4⟩ := look_any h s.data.toList
    have hh := dm_has V S s.data.toList
    obtain ⟨y, hy⟩ : ∃ y, (fget S s.data.toList).isSome = y := ⟨_, rfl⟩
    rw [hy] at hh
    have hno : (fget S s.data.toList).isNone = !y := by rw [← hy]; cases fget S s.data.toList <;> rfl
    rw [hno, ← hL] at hq
    simp only [if_true] at hq
    have c1a : ∀ o, (w.alloc o).cell? ⟨pd, 1, none⟩ = some (.map (some b)) := fun o => (h.below ((Below.refl _ w).alloc (Nat.le_refl _) o)).c1
    have c0a : Hid (∀ o, (w.alloc o).cell? ⟨pd, 0, none⟩ = some (.int .i64 room)) := fun o => (h.below ((Below.refl _ w).alloc (Nat.le_refl _) o)).c0
    clear c0
    have hlen : ∀ o ty, (Builtin.len_ #[92] ty #[.map (some b)]).run Tryz.prog (w.alloc o) = .ok (.int .i64 S.length) (w.alloc o) := fun o ty => by
      have := (hown.alloc o).len Tryz.underlying92 ty
      rwa [dm_size] at this
    have hmost := h.most
    obtain ⟨T, hT⟩ : ∃ T, tot S = T := ⟨_, rfl⟩
    have hr0 := h.r0
    have hus := h.used
    have hT8 := h.tot8
    rw [hT] at hq hus hT8
    have C2 : Hid (∀ o : Obj, ∀ w', Below (w.alloc o).heap.size (w.alloc o) w' → Calls Tryz.prog 117 #[.pointer (some ⟨pd, 0, none⟩)] w' fun e w'' => e = .returned (.int .i64 T) ∧ Below w'.heap.size w' w'') := fun o w' hb => stored_val ((h.below ((Below.refl _ w).alloc (Nat.le_refl _) _)).below hb) T hT
    generalize S.length = n at *
    have HQ : Hid _ := hq
    clear hq h hL hT hn hdl hno hy
    by_cases h1 : 400000 < L + d.size
    · have HQ2 : Hid (4 = q) := by have := HQ.out; rwa [if_pos h1] at this
      clear HQ C2 hlen
      go_enter Tryz.func79, Tryz.ntmps79
      go_wp2_with (first
        | (go_at_call 119; refine (C1.out _).mono ?_; rintro e w1 ⟨rfl, rfl⟩)
        | (at_lookup; refine wpList_look_ok _ rfl _ _ 92 rfl 9 115 lawK Tryz.underlying92 (zeroF _) (rv_mk _ _ _ _) b _ _ rfl hown _ _ rfl hkey _ y hat hh ?_))
      go_ret
      exact ⟨by rw [← HQ2.out]; rfl, (Below.refl _ _).alloc (Nat.le_refl _) _⟩
    · cases y with
      | false =>
        by_cases h2 : 20 ≤ n
        · have HQ2 : Hid (4 = q) := by have := HQ.out; simp [h1, h2] at this; exact this
          clear HQ C2
          go_enter Tryz.func79, Tryz.ntmps79
          go_wp2_with (first
            | (go_at_call 119; refine (C1.out _).mono ?_; rintro e w1 ⟨rfl, rfl⟩)
            | (at_lookup; refine wpList_look_ok _ rfl _ _ 92 rfl 9 115 lawK Tryz.underlying92 (zeroF _) (rv_mk _ _ _ _) b _ _ rfl hown _ _ rfl hkey _ false hat hh ?_))
          go_ret
          exact ⟨by rw [← HQ2.out]; rfl, (Below.refl _ _).alloc (Nat.le_refl _) _⟩
        · have HQ2 : Hid ((if room < (T : Int) + (d.size : Int) then 8 else 0) = q) := by have := HQ.out; simp [h1, h2] at this; exact this
          clear HQ
          by_cases h3 : room < (T : Int) + (d.size : Int)
          all_goals
            go_enter Tryz.func79, Tryz.ntmps79
            go_wp2_with (first
              | (go_at_call 119; refine (C1.out _).mono ?_; rintro e w1 ⟨rfl, rfl⟩)
              | (at_lookup; refine wpList_look_ok _ rfl _ _ 92 rfl 9 115 lawK Tryz.underlying92 (zeroF _) (rv_mk _ _ _ _) b _ _ rfl hown _ _ rfl hkey _ false hat hh ?_))
            obtain ⟨W, hW⟩ : ∃ W, w1.alloc (.cells #[.slice a L c, .int .i64 sy] 115) = W := ⟨_, rfl⟩
            have hbW : Below w1.heap.size w1 W := hW ▸ (Below.refl _ w1).alloc (Nat.le_refl _) _
            have c0W : W.cell? ⟨pd, 0, none⟩ = some (.int .i64 room) := hW ▸ c0a.out _
            have C3 : Hid (∀ w', Below W.heap.size W w' → Calls Tryz.prog 117 #[.pointer (some ⟨pd, 0, none⟩)] w' fun e w'' => e = .returned (.int .i64 T) ∧ Below w'.heap.size w' w'') := hW ▸ C2.out _
            rw [hW]
            clear hW C2 c0a c1a hlen hown hkey hat hh C1 c1
            have hc0 : ∀ d os, (Sort.grow (redrawn W d) os).cell? ⟨pd, 0, none⟩ = some (.int .i64 room) := fun d os => cell_regrown c0W d os
            refine wp_region_quiet_below (by kernel_rfl) (by kernel_rfl) ?_
            repeat (first | go_big_quiet_step (exact Calls.regrown_of (C3.out _ (below_regrown _ _ _))) | quiet_step (exact Calls.regrown_of (C3.out _ (below_regrown _ _ _))))
            refine wpQuiet_nil ?_
            intro _ hw'
            obtain ⟨⟨dq, osq⟩, hw''⟩ := hw'
            subst hw''
            have hb3 : Below w1.heap.size w1 (Sort.grow (redrawn W dq) osq) := bel_tr hbW (below_regrown W dq osq)
            generalize Sort.grow (redrawn W dq) osq = w3 at *
            clear hc0 C3
            go_wp2
            go_ret
            exact ⟨by rw [← HQ2.out]; simp [h3], hb3⟩
      | true =>
        have HQ2 : Hid ((if room < (T : Int) + (d.size : Int) then 8 else 0) = q) := by have := HQ.out; simp [h1] at this; exact this
        clear HQ
        by_cases h3 : room < (T : Int) + (d.size : Int)
        all_goals
          go_enter Tryz.func79, Tryz.ntmps79
          go_wp2_with (first
            | (go_at_call 119; refine (C1.out _).mono ?_; rintro e w1 ⟨rfl, rfl⟩)
            | (at_lookup; refine wpList_look_ok _ rfl _ _ 92 rfl 9 115 lawK Tryz.underlying92 (zeroF _) (rv_mk _ _ _ _) b _ _ rfl hown _ _ rfl hkey _ true hat hh ?_))
          obtain ⟨W, hW⟩ : ∃ W, w1.alloc (.cells #[.slice a L c, .int .i64 sy] 115) = W := ⟨_, rfl⟩
          have hbW : Below w1.heap.size w1 W := hW ▸ (Below.refl _ w1).alloc (Nat.le_refl _) _
          have c0W : W.cell? ⟨pd, 0, none⟩ = some (.int .i64 room) := hW ▸ c0a.out _
          have C3 : Hid (∀ w', Below W.heap.size W w' → Calls Tryz.prog 117 #[.pointer (some ⟨pd, 0, none⟩)] w' fun e w'' => e = .returned (.int .i64 T) ∧ Below w'.heap.size w' w'') := hW ▸ C2.out _
          rw [hW]
          clear hW C2 c0a c1a hlen hown hkey hat hh C1 c1
          have hc0 : ∀ d os, (Sort.grow (redrawn W d) os).cell? ⟨pd, 0, none⟩ = some (.int .i64 room) := fun d os => cell_regrown c0W d os
          refine wp_region_quiet_below (by kernel_rfl) (by kernel_rfl) ?_
          repeat (first | go_big_quiet_step (exact Calls.regrown_of (C3.out _ (below_regrown _ _ _))) | quiet_step (exact Calls.regrown_of (C3.out _ (below_regrown _ _ _))))
          refine wpQuiet_nil ?_
          intro _ hw'
          obtain ⟨⟨dq, osq⟩, hw''⟩ := hw'
          subst hw''
          have hb3 : Below w1.heap.size w1 (Sort.grow (redrawn W dq) osq) := bel_tr hbW (below_regrown W dq osq)
          generalize Sort.grow (redrawn W dq) osq = w3 at *
          clear hc0 C3
          go_wp2
          go_ret
          exact ⟨by rw [← HQ2.out]; simp [h3], hb3⟩

end

end Go.Proofs.YtfmhmokbbkliaaaGreat

/- The contracts of disk.Append and disk.Sync. -/
namespace Go.Proofs.YtfmhmokbbkliaaaGreat
open Go.RowKit

section
variable {O : Nat → Prop} {w : World} {pd b : Nat} {V : List UInt8 → Value} {B : List UInt8 → Option Nat} {room fuse : Int} {down : Bool} {S : FS}

/-- What is looked up, and where it lies. -/
theorem look_byt (h : DA O w pd b V B room fuse down S) (n : List UInt8) :
    ∃ a c g, (dm V S).atKey (.string n) (.held (.agg #[.slice none 0 0, .int .i64 0])) = .held (.agg #[.slice a (fdat S n).length c, .int .i64 (fsy S n : Int)]) ∧ Byt O w (.slice a (fdat S n).length c) (fdat S n) g ∧ (∀ k, g = some k → B n = some k ∧ (fget S n).isSome) ∧ (fdat S n).length ≤ 400000 ∧ fsy S n ≤ (fdat S n).length := by
  rw [dm_at]
  unfold fdat fsy
  cases hf : fget S n with
  | none =>
    refine ⟨none, 0, none, rfl, .nil rfl rfl, ?_, Nat.zero_le _, Nat.zero_le _⟩
    intro k hk; cases hk
  | some f =>
    obtain ⟨a, c, h1, h2⟩ := h.at hf
    exact ⟨a, c, B n, by rw [h1]; rfl, h2, fun k hk => ⟨hk, rfl⟩, (h.data _ (fget_mem hf)).1, (h.data _ (fget_mem hf)).2⟩

/-- What lies in a block that was new, and in the disk's, behind a change of one row. -/
theorem tmp_cell {w w3 : World} {cs : Array Value} {t : TypeId} {g : Option Nat} (hst : Stay (fun k => g = some k) (w.alloc (.cells cs t)) w3) (hg : ∀ k, g = some k → k < w.heap.size) (j : Nat) :
    w3.cell? ⟨w.heap.size, j, none⟩ = cs[j]? ∧ w3.frozen? ⟨w.heap.size, j, none⟩ = false := by
  have hb : w3.heap[w.heap.size]? = (w.alloc (.cells cs t)).heap[w.heap.size]? := hst.block _ (by simp) (fun e => by have := hg _ e; omega)
  exact ⟨(World.cell?_of_block (a := ⟨w.heap.size, j, none⟩) hb).trans (World.cell?_alloc_new w cs t j), (World.frozen?_of_block (a := ⟨w.heap.size, j, none⟩) hb).trans (World.frozen?_alloc_new w cs t j)⟩

theorem old_block {w w3 : World} {o : Obj} {g : Option Nat} (hst : Stay (fun k => g = some k) (w.alloc o) w3) {k : Nat} (hk : k < w.heap.size) (hg : g ≠ some k) : w3.heap[k]? = w.heap[k]? :=
  (hst.block k (by simp; omega) hg).trans (Below.heap_alloc _ _ k hk)

theorem u8row : ∃ i, Tryz.prog.info? 5 = some i ∧ i.zero = some (.int .u8 0) ∧ i.size = 1 ∧ i.bytes = 1 :=
  info_parts (show (Tryz.prog.info? 5).map (fun i => (i.zero, i.size, i.bytes)) = some (some (.int .u8 0), 1, 1) by kernel_rfl)

set_option maxRecDepth 100000 in
set_option maxHeartbeats 1000000 in
theorem append_no (h : DA O w pd b V B room fuse down S) (s d : ByteArray) (hs : s.size ≤ maxLen) (hd : d.size ≤ 140737488355328) (r q f' : Int) (d' : Bool) (hr : refA ⟨room, fuse, down, S⟩ s.data.toList d.data.toList = r)
    (hq : begE ⟨room, fuse, down, S⟩ r = q) (hD : begD ⟨room, fuse, down, S⟩ r = ⟨room, f', d', S⟩) (hq0 : q ≠ 0) :
    Calls Tryz.prog 33 #[.pointer (some ⟨pd, 0, none⟩), .string s, .string d] w fun e w' => e = .returned (.int .i64 q) ∧ DA O w' pd b V B room f' d' S ∧ Stay O w w' := by
  have C1 : Hid _ := fun (_ : Unit) => refuseAppend_val h s d hs hd r hr
  have C2 : Hid (∀ w', Below w.heap.size w w' → _) := fun w' hb => begin_val (h.below hb) r q f' d' hq hD
  clear h hr hq hD
  go_enter Tryz.func33, Tryz.ntmps33
  go_wp2_with fail
  refine (C1.out ()).mono ?_
  rintro e w1 ⟨rfl, b1⟩
  go_wp2_with fail
  refine (C2.out _ b1).mono ?_
  rintro e w2 ⟨rfl, h2, s2, z2⟩
  have HH : Hid _ := h2
  clear h2
  go_wp2
  go_ret
  exact ⟨rfl, HH.out, (Stay.of_below b1).then_same s2⟩

set_option maxRecDepth 100000 in
set_option maxHeartbeats 1000000 in
theorem append_yes (h : DA O w pd b V B room fuse down S) (s d : ByteArray) (hs : s.size ≤ maxLen) (hd : d.size ≤ 140737488355328) (f' : Int) (d' : Bool) (hr : refA ⟨room, fuse, down, S⟩ s.data.toList d.data.toList = 0)
    (hq : begE ⟨room, fuse, down, S⟩ 0 = 0) (hD : begD ⟨room, fuse, down, S⟩ 0 = ⟨room, f', d', S⟩) :
    Calls Tryz.prog 33 #[.pointer (some ⟨pd, 0, none⟩), .string s, .string d] w fun e w' => e = .returned (.int .i64 0) ∧ (∃ V' B', DA (Grow O w w') w' pd b V' B' room f' d' (fapp s.data.toList d.data.toList S)) ∧ Stay O w w' := by
  have C1 : Hid _ := fun (_ : Unit) => refuseAppend_val h s d hs hd 0 hr
  have C2 : Hid (∀ w', Below w.heap.size w w' → _) := fun w' hb => begin_val (h.below hb) 0 0 f' d' hq hD
  obtain ⟨r1, r2, r3, r4⟩ := refA_zero hr
  have hdl : d.data.toList.length = d.size := Array.length_toList
  rw [flen_eq, hdl] at r2
  simp only [hdl] at r4
  have HR3 : Hid _ := r3
  have HN : Hid _ := nameOk_iff r1
  have hkey := WideMaps.keyOf_string_mk (P := Tryz.prog) Tryz.underlying9 hs
  obtain ⟨i, hi1, hi2, hi3, hi4⟩ := u8row
  clear hr hq hD r1 r3
  go_enter Tryz.func33, Tryz.ntmps33
  go_wp2_with fail
  refine (C1.out ()).mono ?_
  rintro e w1 ⟨rfl, b1⟩
  go_wp2_with fail
  refine (C2.out _ b1).mono ?_
  rintro e w2 ⟨rfl, h2, s2, -⟩
  clear C1 C2
  have c1 := h2.c1
  have hown := h2.own
  obtain ⟨a, c, g, hat, hy, hg, hL, hsy⟩ := look_byt h2 s.data.toList
  have HH : Hid (DA O w2 pd b V B room f' d' S) := h2
  have HG : Hid (∀ k, g = some k → B s.data.toList = some k ∧ (fget S s.data.toList).isSome) := hg
  have HG2 : Hid (∀ k, g = some k → k < w2.heap.size) := fun k hk => by rw [hk] at hy; exact hy.lt.1
  clear h2 hg
  generalize hl : fdat S s.data.toList = l at *
  generalize hsyn : fsy S s.data.toList = sy at *
  have HL : Hid _ := hl
  have HS : Hid _ := hsyn
  clear hl hsyn
  go_wp2_with (first
    | (at_lookup; refine wpList_look _ rfl _ _ 92 rfl 9 115 lawK Tryz.underlying92 (zeroF _) (rv_mk _ _ _ _) b _ _ rfl hown _ _ rfl hkey _ hat ?_)
    | (at_builtin; refine wpList_append_byt _ rfl _ _ 113 9 rfl 5 i Tryz.underlying113 Tryz.underlying9 hi1 hi2 hi3 hi4 _ l g rfl (hy.stay (w' := w2.alloc _) (O2 := O) (by simp) (fun k hk => Below.heap_alloc _ _ k (by rw [hk] at hy; exact hy.lt.1)) (fun _ e => e)) d rfl (by omega) ?_; intro a' c' w3 g' hy3 hst3 hg3; have t0 := (tmp_cell hst3 HG2.out 0).1; have t1 := (tmp_cell hst3 HG2.out 1).1; have tf := (tmp_cell hst3 HG2.out 0).2; simp only [List.getElem?_toArray, List.getElem?_cons_zero, List.getElem?_cons_succ] at t0 t1))
  obtain ⟨W4, hW4⟩ : ∃ W4, w3.setCell ⟨w2.heap.size, 0, none⟩ (.slice a' (l.length + d.size) c') = W4 := ⟨_, rfl⟩
  have hz3 : w2.heap.size + 1 ≤ w3.heap.size := by have := hst3.size; simpa using this
  have hst4 : Stay (fun k => B s.data.toList = some k ∧ (fget S s.data.toList).isSome) w2 W4 := by
    refine Stay.trans (O2 := fun k => g = some k ∨ k = w2.heap.size) (Stay.of_below ((Below.refl _ w2).alloc (Nat.le_refl _) _)) ((hst3.mono (fun _ e => .inl e)).then_same (hW4 ▸ Stay.setCell w3 ⟨w2.heap.size, 0, none⟩ _ (.inr rfl))) (fun k hk e => e.elim (HG.out k) (fun e => by omega))
  obtain ⟨c14, hown4⟩ := HH.out.but hst4
  have hz4 : W4.heap.size = w3.heap.size := by rw [← hW4]; simp [World.setCell]
  have u0 : W4.cell? ⟨w2.heap.size, 0, none⟩ = some (.slice a' (l.length + d.size) c') := hW4 ▸ World.cell?_setCell_same _ _ _ t0
  have u1 : W4.cell? ⟨w2.heap.size, 1, none⟩ = some (.int .i64 sy) := hW4 ▸ cell_set (by decide) t1
  have hy4 : Byt (Grow O (w2.alloc (.cells #[.slice a l.length c, .int .i64 sy] 115)) w3) W4.drew (.slice a' (l.length + d.size) c') (l ++ d.data.toList) g' := by
    rw [show (l ++ d.data.toList).length = l.length + d.size by rw [List.length_append, hdl]] at hy3
    exact hW4 ▸ (hy3.setCell _ _ (fun e => by
      rcases hg3 _ e with e | e
      · have := HG2.out _ e; simp at this
      · simp at e; omega)).drew
  rw [hW4]
  obtain ⟨W5, hmu, ho5, ht5⟩ := hown4.drew.store lawK Tryz.underlying92 (by have := HH.out.most; unfold maxLen; omega) hkey (rv_mk a' (l.length + d.size) c' sy)
  have Y4 : Hid _ := hy4
  have S4 : Hid _ := hst4
  have O5 : Hid (W5.ownsMap Tryz.prog 9 rv b (S.length + 1) ((dm V S).put (.string s.data.toList) (.held (.agg #[.slice a' (l.length + d.size) c', .int .i64 (sy : Int)])))) := ho5
  have T5 : Hid (W4.drew.mapTurned W5 b) := ht5
  have Z4 : Hid _ := hz4
  have G3 : Hid _ := hg3
  have ST3 : Hid _ := hst3
  clear hy4 hst4 ho5 ht5 hz4 hg3 hst3 hy3 hW4 t0 t1 tf hown4 hown c1 hat hy hi1 hi2 hi3 hi4
  go_region
  go_wp2
  go_ret
  have zT : W5.heap.size = W4.heap.size := turned_size (w := W4.drew) T5.out
  have z4 := Z4.out
  have zw := Nat.le_trans b1.size s2.size
  have hsub : ∀ k, Grow O (w2.alloc (.cells #[.slice a l.length c, .int .i64 sy] 115)) w3 k → Grow O w W5 k := fun k hk => hk.elim .inl (fun ⟨e1, e2⟩ => .inr ⟨by simp at e1; omega, by omega⟩)
  have hlt : ∀ k, Grow O w W5 k → k < W4.drew.heap.size := fun k hk => by
    show k < W4.heap.size
    exact hk.elim (fun e => by have := HH.out.lt k e; omega) (fun e => by have := e.2; omega)
  have hput := len_fput HH.out.rise s.data.toList (l ++ d.data.toList, sy)
  have htot := tot_fput HH.out.rise s.data.toList (l ++ d.data.toList, sy)
  have hfl := flen_eq S s.data.toList
  rw [HL.out] at hfl
  have hD := HH.out.put (w1 := W4.drew) (w2 := W5) (O1 := Grow O w W5) (n := s.data.toList) (sl := .slice a' (l.length + d.size) c') (l := l ++ d.data.toList) (s := sy) (g := g')
    (fun k hk => .inl hk) hlt (Y4.out.stay (Nat.le_refl _) (fun _ _ => rfl) hsub) S4.out.drew
    (HH.out.fresh (fun k hk => (G3.out k hk).elim (fun e => .inl (HG.out k e)) (fun e => .inr (by simp at e; omega)))) O5.out T5.out HN.out (by rw [List.length_append, hdl]; omega)
    (by
      cases hsm : fget S s.data.toList with
      | none =>
        rw [hsm] at hput
        have := HR3.out (by rw [hsm]; rfl)
        simp at hput; omega
      | some f =>
        rw [hsm] at hput
        have := HH.out.most
        simp at hput; omega)
    (by simp only [List.length_append, hdl] at htot; omega)
  rw [fapp_eq, HL.out, HS.out]
  refine ⟨rfl, ⟨_, _, hD⟩, ?_⟩
  · refine ((Stay.of_below b1).then_same s2).trans (O2 := fun k => O k) ((S4.out.drew.mono (fun k e => ?_)).then_same (Stay.of_grown T5.out.grown (fun k e => ?_))) (fun _ _ e => e)
    · obtain ⟨f, hf⟩ := Option.isSome_iff_exists.1 e.2
      obtain ⟨sl, _, h4⟩ := HH.out.file _ (fget_mem hf)
      rw [show B (s.data.toList, f).1 = some k from e.1] at h4
      exact h4.lt.2
    · cases e; exact HH.out.oB

end

end Go.Proofs.YtfmhmokbbkliaaaGreat

/- The contracts of disk.Append (whole), Sync, Delete, Rename. -/
namespace Go.Proofs.YtfmhmokbbkliaaaGreat
open Go.RowKit

section
variable {O : Nat → Prop} {w : World} {pd b : Nat} {V : List UInt8 → Value} {B : List UInt8 → Option Nat} {room fuse : Int} {down : Bool} {S : FS}

theorem grow_wide {w' : World} (h : DA O w' pd b V B room fuse down S) : DA (Grow O w w') w' pd b V B room fuse down S :=
  h.wide (fun _ e => .inl e) (fun k e => e.elim (h.lt k) (fun e => e.2))

theorem append_val {ds ds' : DS} (h : DAt O w pd ds) (s d : ByteArray) (hs : s.size ≤ maxLen) (hd : d.size ≤ 140737488355328) (q : Int) (hq : begE ds (refA ds s.data.toList d.data.toList) = q)
    (hds : doD ds (refA ds s.data.toList d.data.toList) (fapp s.data.toList d.data.toList) = ds') :
    Calls Tryz.prog 33 #[.pointer (some ⟨pd, 0, none⟩), .string s, .string d] w fun e w' => e = .returned (.int .i64 q) ∧ DAt (Grow O w w') w' pd ds' ∧ Stay O w w' := by
  obtain ⟨b, V, B, h⟩ := h
  obtain ⟨room, fuse, down, S⟩ := ds
  have hD := begD_form ⟨room, fuse, down, S⟩ (refA ⟨room, fuse, down, S⟩ s.data.toList d.data.toList)
  unfold doD at hds
  by_cases h0 : q = 0
  · subst h0
    have hr := begE_zero hq
    rw [if_pos hq] at hds
    rw [hr] at hq hD
    subst hds
    refine (append_yes h s d hs hd _ _ hr hq hD).mono fun e w' ⟨h1, ⟨V', B', h2⟩, h3⟩ => ⟨h1, ⟨b, V', B', ?_⟩, h3⟩
    rw [hr, begD_room]; exact h2
  · rw [hq, if_neg h0] at hds
    subst hds
    refine (append_no h s d hs hd _ q _ _ rfl hq hD h0).mono fun e w' ⟨h1, h2, h3⟩ => ⟨h1, ⟨b, V, B, ?_⟩, h3⟩
    rw [begD_room, begD_S]; exact grow_wide h2

/-- A change that would tell 0 and does f. -/
theorem wrap_do {ds ds' : DS} {F : Nat} {args : Array Value} {r : Int} (f : FS → FS) (h : DAt O w pd ds) (q : Int) (hq : begE ds r = q) (hds : doD ds r f = ds')
    (hno : ∀ b V B f' d', DA O w pd b V B ds.room ds.fuse ds.down ds.S → begD ds r = ⟨ds.room, f', d', ds.S⟩ → q ≠ 0 → Calls Tryz.prog F args w fun e w' => e = .returned (.int .i64 q) ∧ DA O w' pd b V B ds.room f' d' ds.S ∧ Stay O w w')
    (hyes : ∀ b V B f' d', DA O w pd b V B ds.room ds.fuse ds.down ds.S → r = 0 → begE ds 0 = 0 → begD ds 0 = ⟨ds.room, f', d', ds.S⟩ → Calls Tryz.prog F args w fun e w' => e = .returned (.int .i64 0) ∧ (∃ V' B', DA (Grow O w w') w' pd b V' B' ds.room f' d' (f ds.S)) ∧ Stay O w w') :
    Calls Tryz.prog F args w fun e w' => e = .returned (.int .i64 q) ∧ DAt (Grow O w w') w' pd ds' ∧ Stay O w w' := by
  obtain ⟨b, V, B, h⟩ := h
  have hD := begD_form ds r
  unfold doD at hds
  by_cases h0 : q = 0
  · subst h0
    have hr := begE_zero hq
    rw [if_pos hq] at hds
    rw [hr] at hq hD
    subst hds
    refine (hyes b V B _ _ h hr hq hD).mono fun e w' ⟨h1, ⟨V', B', h2⟩, h3⟩ => ⟨h1, ⟨b, V', B', ?_⟩, h3⟩
    rw [hr, begD_room]; exact h2
  · rw [hq, if_neg h0] at hds
    subst hds
    refine (hno b V B _ _ h hD h0).mono fun e w' ⟨h1, h2, h3⟩ => ⟨h1, ⟨b, V, B, ?_⟩, h3⟩
    rw [begD_room, begD_S]; exact grow_wide h2

set_option maxRecDepth 100000 in
set_option maxHeartbeats 1000000 in
theorem delete_val {ds ds' : DS} (h : DAt O w pd ds) (s : ByteArray) (hs : s.size ≤ maxLen) (q : Int) (hq : begE ds (refM ds.S s.data.toList) = q) (hds : doD ds (refM ds.S s.data.toList) (fun S => fdel S s.data.toList) = ds') :
    Calls Tryz.prog 156 #[.pointer (some ⟨pd, 0, none⟩), .string s] w fun e w' => e = .returned (.int .i64 q) ∧ DAt (Grow O w w') w' pd ds' ∧ Stay O w w' := by
  obtain ⟨room, fuse, down, S⟩ := ds
  have hkey := WideMaps.keyOf_string_mk (P := Tryz.prog) Tryz.underlying9 hs
  refine wrap_do _ h q hq hds ?_ ?_
  · intro b V B f' d' h hD hq0
    have C1 : Hid _ := fun (_ : Unit) => refuseMissing_val h s hs _ rfl
    have C2 : Hid (∀ w', Below w.heap.size w w' → _) := fun w' hb => begin_val (h.below hb) _ q f' d' hq hD
    clear h hq hD hds hkey
    go_enter Tryz.func156, Tryz.ntmps156
    go_wp2_with fail
    refine (C1.out ()).mono ?_
    rintro e w1 ⟨rfl, b1⟩
    go_wp2_with fail
    refine (C2.out _ b1).mono ?_
    rintro e w2 ⟨rfl, h2, s2, -⟩
    have HH : Hid _ := h2
    clear h2
    go_wp2
    go_ret
    exact ⟨rfl, HH.out, (Stay.of_below b1).then_same s2⟩
  · intro b V B f' d' h hr hq0 hD
    have C1 : Hid _ := fun (_ : Unit) => refuseMissing_val h s hs 0 hr
    have C2 : Hid (∀ w', Below w.heap.size w w' → _) := fun w' hb => begin_val (h.below hb) 0 0 f' d' hq0 hD
    clear h hq hD hds hq0 hr
    go_enter Tryz.func156, Tryz.ntmps156
    go_wp2_with fail
    refine (C1.out ()).mono ?_
    rintro e w1 ⟨rfl, b1⟩
    go_wp2_with fail
    refine (C2.out _ b1).mono ?_
    rintro e w2 ⟨rfl, h2, s2, -⟩
    have HH : Hid _ := h2
    have c1 := h2.c1
    have hown := h2.own
    clear h2 C1 C2
    go_wp2_with (at_delete; refine wpList_delete_own _ rfl _ _ 92 9 rfl 115 lawK Tryz.underlying92 rv b _ _ rfl hown _ _ rfl hkey ?_; intro w3 ho3 ht3)
    go_ret
    have h3 := HH.out.del ho3 ht3
    refine ⟨rfl, ⟨V, B, h3.wide (fun _ e => .inl e) (fun k e => e.elim (h3.lt k) (fun e => e.2))⟩, ?_⟩
    exact (Stay.of_below b1).then_same (s2.then_same (Stay.of_grown ht3.grown (fun k e => by cases e; exact HH.out.oB)))

end

end Go.Proofs.YtfmhmokbbkliaaaGreat

/- The contracts of disk.Sync, refuseRename, Rename. -/
namespace Go.Proofs.YtfmhmokbbkliaaaGreat
open Go.RowKit

section
variable {O : Nat → Prop} {w : World} {pd b : Nat} {V : List UInt8 → Value} {B : List UInt8 → Option Nat} {room fuse : Int} {down : Bool} {S : FS}

/-- What a store into the map leaves. -/
theorem put_done {w2 W4 W5 : World} (HH : DA O w2 pd b V B room fuse down S) (s0 : Stay O w w2) {n : List UInt8} (hst4 : Stay (fun k => B n = some k ∧ (fget S n).isSome) w2 W4) {sl : Value} {l : List UInt8} {sy : Nat} {g : Option Nat}
    (hy : Byt (Grow O w2 W4) W4 sl l g) (hg : ∀ k, g = some k → k ≠ pd ∧ k ≠ b ∧ ∀ q ∈ S, q.1 ≠ n → B q.1 ≠ some k)
    (ho : W5.ownsMap Tryz.prog 9 rv b (S.length + 1) ((dm V S).put (.string n) (.held (.agg #[sl, .int .i64 (sy : Int)])))) (ht : W4.drew.mapTurned W5 b)
    (hn : 1 ≤ n.length ∧ n.length ≤ 30) (hd : l.length ≤ 400000 ∧ sy ≤ l.length) (hm : (fput S n (l, sy)).length ≤ 20) (hu : (tot (fput S n (l, sy)) : Int) ≤ room) :
    (∃ V' B', DA (Grow O w W5) W5 pd b V' B' room fuse down (fput S n (l, sy))) ∧ Stay O w W5 := by
  have zT : W5.heap.size = W4.heap.size := turned_size (w := W4.drew) ht
  have z0 := s0.size
  have z4 := hst4.size
  have hD := HH.put (w1 := W4.drew) (w2 := W5) (O1 := Grow O w W5) (fun k hk => .inl hk)
    (fun k hk => by
      show k < W4.heap.size
      exact hk.elim (fun e => by have := HH.lt k e; omega) (fun e => by have := e.2; omega))
    (hy.stay (w' := W4.drew) (Nat.le_refl W4.heap.size) (fun _ _ => rfl) (fun k hk => hk.elim .inl (fun e => .inr ⟨by omega, by omega⟩))) hst4.drew hg ho ht hn hd hm hu
  refine ⟨⟨_, _, hD⟩, ?_⟩
  refine s0.then_same ((hst4.drew.mono (fun k e => ?_)).then_same (Stay.of_grown ht.grown (fun k e => ?_)))
  · obtain ⟨f, hf⟩ := Option.isSome_iff_exists.1 e.2
    obtain ⟨sl, _, h4⟩ := HH.file _ (fget_mem hf)
    rw [show B (n, f).1 = some k from e.1] at h4
    exact h4.lt.2
  · cases e; exact HH.oB

set_option maxRecDepth 100000 in
set_option maxHeartbeats 1000000 in
theorem sync_val {ds ds' : DS} (h : DAt O w pd ds) (s : ByteArray) (hs : s.size ≤ maxLen) (q : Int) (hq : begE ds (refM ds.S s.data.toList) = q) (hds : doD ds (refM ds.S s.data.toList) (fsyn s.data.toList) = ds') :
    Calls Tryz.prog 157 #[.pointer (some ⟨pd, 0, none⟩), .string s] w fun e w' => e = .returned (.int .i64 q) ∧ DAt (Grow O w w') w' pd ds' ∧ Stay O w w' := by
  obtain ⟨room, fuse, down, S⟩ := ds
  have hkey := WideMaps.keyOf_string_mk (P := Tryz.prog) Tryz.underlying9 hs
  refine wrap_do _ h q hq hds ?_ ?_
  · intro b V B f' d' h hD hq0
    have C1 : Hid _ := fun (_ : Unit) => refuseMissing_val h s hs _ rfl
    have C2 : Hid (∀ w', Below w.heap.size w w' → _) := fun w' hb => begin_val (h.below hb) _ q f' d' hq hD
    clear h hq hD hds hkey
    go_enter Tryz.func157, Tryz.ntmps157
    go_wp2_with fail
    refine (C1.out ()).mono ?_
    rintro e w1 ⟨rfl, b1⟩
    go_wp2_with fail
    refine (C2.out _ b1).mono ?_
    rintro e w2 ⟨rfl, h2, s2, -⟩
    have HH : Hid _ := h2
    clear h2
    go_wp2
    go_ret
    exact ⟨rfl, HH.out, (Stay.of_below b1).then_same s2⟩
  · intro b V B f' d' h hr hq0 hD
    obtain ⟨⟨l, sy⟩, hf⟩ := refM_zero hr
    have C1 : Hid _ := fun (_ : Unit) => refuseMissing_val h s hs 0 hr
    have C2 : Hid (∀ w', Below w.heap.size w w' → _) := fun w' hb => begin_val (h.below hb) 0 0 f' d' hq0 hD
    clear h hq hD hds hq0 hr
    go_enter Tryz.func157, Tryz.ntmps157
    go_wp2_with fail
    refine (C1.out ()).mono ?_
    rintro e w1 ⟨rfl, b1⟩
    go_wp2_with fail
    refine (C2.out _ b1).mono ?_
    rintro e w2 ⟨rfl, h2, s2, -⟩
    have HH : Hid (DA O w2 pd b V B room f' d' S) := h2
    have c1 := h2.c1
    have hown := h2.own
    obtain ⟨a, c, hV, hy⟩ := h2.at hf
    have hat : (dm V S).atKey (.string s.data.toList) (.held (.agg #[.slice none 0 0, .int .i64 0])) = .held (.agg #[.slice a l.length c, .int .i64 (sy : Int)]) := by rw [dm_at, hf, hV]; rfl
    have hdat := h2.data _ (fget_mem hf)
    have hl4 : l.length ≤ 400000 := hdat.1
    have hsl : sy ≤ l.length := hdat.2
    have HF : Hid _ := hf
    have HY : Hid (Byt O w2 (.slice a l.length c) l (B s.data.toList)) := hy
    have hnm : 1 ≤ s.data.toList.length ∧ s.data.toList.length ≤ 30 := h2.name _ (fget_mem hf)
    have HN : Hid _ := hnm
    clear h2 C1 C2 hf hV hy hdat hnm
    go_wp2_with (at_lookup; refine wpList_look _ rfl _ _ 92 rfl 9 115 lawK Tryz.underlying92 (zeroF _) (rv_mk _ _ _ _) b _ _ rfl hown _ _ rfl hkey _ hat ?_)
    obtain ⟨W4, hW4⟩ : ∃ W4, (w2.alloc (.cells #[.slice a l.length c, .int .i64 (l.length : Int)] 115)) = W4 := ⟨_, rfl⟩
    have hst4 : Stay (fun k => B s.data.toList = some k ∧ (fget S s.data.toList).isSome) w2 W4 := hW4 ▸ Stay.of_below ((Below.refl _ w2).alloc (Nat.le_refl _) _)
    obtain ⟨c14, hown4⟩ := HH.out.but hst4
    have u0 : W4.cell? ⟨w2.heap.size, 0, none⟩ = some (.slice a l.length c) := hW4 ▸ World.cell?_alloc_new w2 _ _ 0
    have u1 : W4.cell? ⟨w2.heap.size, 1, none⟩ = some (.int .i64 (l.length : Int)) := hW4 ▸ World.cell?_alloc_new w2 _ _ 1
    have hy4 : Byt (Grow O w2 W4) W4 (.slice a l.length c) l (B s.data.toList) := by
      rw [← hW4]
      have hy := HY.out
      exact hy.stay (by simp) (fun k hk => Below.heap_alloc _ _ k (by rw [hk] at hy; exact hy.lt.1)) (fun _ e => .inl e)
    rw [hW4]
    obtain ⟨W5, hmu, ho5, ht5⟩ := hown4.drew.store lawK Tryz.underlying92 (by have := HH.out.most; unfold maxLen; omega) hkey (rv_mk a l.length c (l.length : Int))
    have Y4 : Hid _ := hy4
    have S4 : Hid _ := hst4
    have O5 : Hid (W5.ownsMap Tryz.prog 9 rv b (S.length + 1) ((dm V S).put (.string s.data.toList) (.held (.agg #[.slice a l.length c, .int .i64 (l.length : Int)])))) := ho5
    have T5 : Hid (W4.drew.mapTurned W5 b) := ht5
    clear hy4 hst4 ho5 ht5 hown4 hown c1 hat hW4
    go_region
    go_wp2
    go_ret
    have hput := len_fput HH.out.rise s.data.toList (l, l.length)
    have htot := tot_fput HH.out.rise s.data.toList (l, l.length)
    have hmost := HH.out.most
    have hused := HH.out.used
    rw [HF.out] at hput htot
    have e1 : fsyn s.data.toList S = fput S s.data.toList (l, l.length) := by unfold fsyn; rw [HF.out]
    rw [e1]
    exact ⟨rfl, put_done HH.out ((Stay.of_below b1).then_same s2) S4.out Y4.out (HH.out.fresh (fun k hk => .inl ⟨hk, by rw [HF.out]; rfl⟩)) O5.out T5.out HN.out ⟨hl4, Nat.le_refl _⟩ (by simp at hput; omega) (by simp [flen] at htot; omega)⟩

set_option maxRecDepth 100000 in
theorem refuseRename_val (h : DA O w pd b V B room fuse down S) (s d : ByteArray) (hs : s.size ≤ maxLen) (hd : d.size ≤ maxLen) (q : Int) (hq : refR S s.data.toList d.data.toList = q) :
    Calls Tryz.prog 158 #[.pointer (some ⟨pd, 0, none⟩), .string s, .string d] w fun e w' => e = .returned (.int .i64 q) ∧ Below w.heap.size w w' := by
  unfold refR at hq
  cases hn : nameOk d.data.toList with
  | false =>
    rw [hn] at hq
    simp at hq
    subst hq
    have C1 : Hid _ := fun w => isName_val d false w hd hn
    clear h hn
    go_enter Tryz.func158, Tryz.ntmps158
    go_wp2_with (go_at_call 119; refine (C1.out _).mono ?_; rintro e w1 ⟨rfl, rfl⟩)
    go_ret
    exact ⟨rfl, Below.refl _ _⟩
  | true =>
    rw [hn] at hq
    simp at hq
    have C1 : Hid _ := fun w => isName_val d true w hd hn
    have C2 : Hid _ := fun (_ : Unit) => refuseMissing_val h s hs q hq
    clear h hn hq
    go_enter Tryz.func158, Tryz.ntmps158
    go_wp2_with fail
    refine (C1.out _).mono ?_
    rintro e w1 ⟨rfl, hw1⟩
    subst hw1
    go_wp2_with fail
    refine (C2.out ()).mono ?_
    rintro e w2 ⟨rfl, b2⟩
    go_wp2
    go_ret
    exact ⟨rfl, b2⟩

set_option maxRecDepth 100000 in
set_option maxHeartbeats 1000000 in
theorem rename_val {ds ds' : DS} (h : DAt O w pd ds) (s d : ByteArray) (hs : s.size ≤ maxLen) (hd : d.size ≤ maxLen) (q : Int) (hq : begE ds (refR ds.S s.data.toList d.data.toList) = q) (hds : doD ds (refR ds.S s.data.toList d.data.toList) (fren s.data.toList d.data.toList) = ds') :
    Calls Tryz.prog 138 #[.pointer (some ⟨pd, 0, none⟩), .string s, .string d] w fun e w' => e = .returned (.int .i64 q) ∧ DAt (Grow O w w') w' pd ds' ∧ Stay O w w' := by
  obtain ⟨room, fuse, down, S⟩ := ds
  have hkey := WideMaps.keyOf_string_mk (P := Tryz.prog) Tryz.underlying9 hs
  have hkey2 := WideMaps.keyOf_string_mk (P := Tryz.prog) Tryz.underlying9 hd
  refine wrap_do _ h q hq hds ?_ ?_
  · intro b V B f' d' h hD hq0
    have C1 : Hid _ := fun (_ : Unit) => refuseRename_val h s d hs hd _ rfl
    have C2 : Hid (∀ w', Below w.heap.size w w' → _) := fun w' hb => begin_val (h.below hb) _ q f' d' hq hD
    clear h hq hD hds hkey hkey2
    go_enter Tryz.func138, Tryz.ntmps138
    go_wp2_with fail
    refine (C1.out ()).mono ?_
    rintro e w1 ⟨rfl, b1⟩
    go_wp2_with fail
    refine (C2.out _ b1).mono ?_
    rintro e w2 ⟨rfl, h2, s2, -⟩
    have HH : Hid _ := h2
    clear h2
    go_wp2
    go_ret
    exact ⟨rfl, HH.out, (Stay.of_below b1).then_same s2⟩
  · intro b V B f' d' h hr hq0 hD
    obtain ⟨hno, ⟨l, sy⟩, hf⟩ := refR_zero hr
    have HN : Hid _ := nameOk_iff hno
    have C1 : Hid _ := fun (_ : Unit) => refuseRename_val h s d hs hd 0 hr
    have C2 : Hid (∀ w', Below w.heap.size w w' → _) := fun w' hb => begin_val (h.below hb) 0 0 f' d' hq0 hD
    clear h hq hD hds hq0 hr hno
    go_enter Tryz.func138, Tryz.ntmps138
    go_wp2_with fail
    refine (C1.out ()).mono ?_
    rintro e w1 ⟨rfl, b1⟩
    go_wp2_with fail
    refine (C2.out _ b1).mono ?_
    rintro e w2 ⟨rfl, h2, s2, -⟩
    have HH : Hid (DA O w2 pd b V B room f' d' S) := h2
    have c1 := h2.c1
    have hown := h2.own
    obtain ⟨a, c, hV, hy⟩ := h2.at hf
    have hat : (dm V S).atKey (.string s.data.toList) (.held (.agg #[.slice none 0 0, .int .i64 0])) = .held (.agg #[.slice a l.length c, .int .i64 (sy : Int)]) := by rw [dm_at, hf, hV]; rfl
    have hdat := h2.data _ (fget_mem hf)
    have hl4 : l.length ≤ 400000 := hdat.1
    have hsl : sy ≤ l.length := hdat.2
    have HF : Hid _ := hf
    have HY : Hid (Byt O w2 (.slice a l.length c) l (B s.data.toList)) := hy
    have c1a : ∀ o, (w2.alloc o).cell? ⟨pd, 1, none⟩ = some (.map (some b)) := fun o => (h2.below ((Below.refl _ w2).alloc (Nat.le_refl _) o)).c1
    clear h2 C1 C2 hf hV hy hdat
    go_wp2_with (first
      | (at_lookup; refine wpList_look _ rfl _ _ 92 rfl 9 115 lawK Tryz.underlying92 (zeroF _) (rv_mk _ _ _ _) b _ _ rfl hown _ _ rfl hkey _ hat ?_)
      | (at_delete; refine wpList_delete_own _ rfl _ _ 92 9 rfl 115 lawK Tryz.underlying92 rv b _ _ rfl (hown.alloc _) _ _ rfl hkey ?_; intro W4 ho4 ht4))
    obtain ⟨w3, hw3⟩ : ∃ w3, w2.alloc (.cells #[.slice a l.length c, .int .i64 (sy : Int)] 115) = w3 := ⟨_, rfl⟩
    rw [hw3] at ht4
    have hb3 : Below w2.heap.size w2 w3 := hw3 ▸ (Below.refl _ w2).alloc (Nat.le_refl _) _
    have h3 := HH.out.below hb3
    have h4 := h3.del ho4 ht4
    have hbt : ∀ k, k ≠ b → k < w3.heap.size → W4.heap[k]? = w3.heap[k]? := fun k hk hl => ht4.grown.block k hl (by simpa using hk)
    have hlt2 : w2.heap.size < w3.heap.size := by rw [← hw3]; simp
    have hbw : b < w2.heap.size := HH.out.lt b HH.out.oB
    have u0 : W4.cell? ⟨w2.heap.size, 0, none⟩ = some (.slice a l.length c) := (World.cell?_of_block (a := ⟨w2.heap.size, 0, none⟩) (hbt w2.heap.size (by omega) hlt2)).trans (hw3 ▸ World.cell?_alloc_new w2 _ _ 0)
    have u1 : W4.cell? ⟨w2.heap.size, 1, none⟩ = some (.int .i64 (sy : Int)) := (World.cell?_of_block (a := ⟨w2.heap.size, 1, none⟩) (hbt w2.heap.size (by omega) hlt2)).trans (hw3 ▸ World.cell?_alloc_new w2 _ _ 1)
    have c14 := h4.c1
    have hown4 := h4.own
    obtain ⟨W5, hmu, ho5, ht5⟩ := hown4.drew.store lawK Tryz.underlying92 (by have := h4.most; unfold maxLen; omega) hkey2 (rv_mk a l.length c (sy : Int))
    have hyB := HY.out
    have hy4 : Byt (Grow O W4 W4) W4 (.slice a l.length c) l (B s.data.toList) :=
      hyB.stay (Nat.le_trans hb3.size (by rw [turned_size ht4]; exact Nat.le_refl _)) (fun k hk => by
        have hn := (HH.out.nP _ (fget_mem HF.out)).2
        have hk2 : B s.data.toList = some k := hk
        rw [hk2] at hyB
        have := hyB.lt.1
        exact (hbt k (fun e => hn (by rw [show B (s.data.toList, (l, sy)).1 = some k from hk, e])) (by omega)).trans (hb3.block k this)) (fun _ e => .inl e)
    have H4 : Hid (DA O W4 pd b V B room f' d' (fdel S s.data.toList)) := h4
    have ST4 : Hid (Stay O w2 W4) := (Stay.of_below hb3).then_same (Stay.of_grown ht4.grown (fun k e => by cases e; exact HH.out.oB))
    have Y4 : Hid _ := hy4
    have O5 : Hid (W5.ownsMap Tryz.prog 9 rv b ((fdel S s.data.toList).length + 1) ((dm V (fdel S s.data.toList)).put (.string d.data.toList) (.held (.agg #[.slice a l.length c, .int .i64 (sy : Int)])))) := ho5
    have T5 : Hid (W4.drew.mapTurned W5 b) := ht5
    clear h4 h3 hy4 ho5 ht5 hown4 hown c1 c1a hat hw3 ho4 ht4 hbt hyB hb3
    go_region
    all_goals
      go_wp2
      go_ret
      have hput := len_fput H4.out.rise d.data.toList (l, sy)
      have htot := tot_fput H4.out.rise d.data.toList (l, sy)
      have hdl := len_fdel HH.out.rise s.data.toList
      have hdt := tot_fdel HH.out.rise s.data.toList
      have hmost := HH.out.most
      have hused := HH.out.used
      rw [HF.out] at hdl hdt
      simp [flen] at hdl hdt
      have e1 : fren s.data.toList d.data.toList S = fput (fdel S s.data.toList) d.data.toList (l, sy) := by unfold fren; rw [HF.out]
      rw [e1]
      exact ⟨rfl, put_done H4.out ((Stay.of_below b1).then_same (s2.then_same ST4.out)) (Stay.refl _ _) Y4.out (fun k hk => ⟨fun e => (HH.out.nP _ (fget_mem HF.out)).1 (by rw [← e]; exact hk), fun e => (HH.out.nP _ (fget_mem HF.out)).2 (by rw [← e]; exact hk), fun q hq _ hq2 => HH.out.apart q (mem_fdel.1 hq).1 _ (fget_mem HF.out) (mem_fdel.1 hq).2 k hq2 hk⟩) O5.out T5.out HN.out ⟨hl4, hsl⟩ (by omega) (by simp only at htot; omega)⟩

end

end Go.Proofs.YtfmhmokbbkliaaaGreat
