/- The contracts of disk.Append and disk.Sync. -/
import Derived.Test.YtokldcifhjkmnaaDiskF2
namespace Go.Proofs.Ytokldcifhjkmnaa
open Go.RowKit

section
variable {O : Nat → Prop} {w : World} {pd b : Nat} {V : List UInt8 → Value} {B : List UInt8 → Option Nat} {room fuse : Int} {down : Bool} {S : FS}

/-- What is looked up, and where it lies. -/
theorem look_byt (h : DA O w pd b V B room fuse down S) (n : List UInt8) :
    ∃ a c g, (dm V S).atKey (.string n) (.held (.agg #[.slice none 0 0, .int .i64 0])) = .held (.agg #[.slice a (fdat S n).length c, .int .i64 (fsy S n : Int)]) ∧ Byt O w (.slice a (fdat S n).length c) (fdat S n) g ∧ (∀ k, g = some k → B n = some k ∧ (fget S n).isSome) ∧ (fdat S n).length ≤ 400000 ∧ fsy S n ≤ (fdat S n).length := by
  rw [dm_at]
  unfold fdat fsy
  cases hf : fget S n with
  | none =>
    refine ⟨none, 0, none, rfl, .nil rfl rfl, ?_, Nat.zero_le _, Nat.zero_le _⟩
    intro k hk; cases hk
  | some f =>
    obtain ⟨a, c, h1, h2⟩ := h.at hf
    exact ⟨a, c, B n, by rw [h1]; rfl, h2, fun k hk => ⟨hk, rfl⟩, (h.data _ (fget_mem hf)).1, (h.data _ (fget_mem hf)).2⟩

/-- What lies in a block that was new, and in the disk's, behind a change of one row. -/
theorem tmp_cell {w w3 : World} {cs : Array Value} {t : TypeId} {g : Option Nat} (hst : Stay (fun k => g = some k) (w.alloc (.cells cs t)) w3) (hg : ∀ k, g = some k → k < w.heap.size) (j : Nat) :
    w3.cell? ⟨w.heap.size, j, none⟩ = cs[j]? ∧ w3.frozen? ⟨w.heap.size, j, none⟩ = false := by
  have hb : w3.heap[w.heap.size]? = (w.alloc (.cells cs t)).heap[w.heap.size]? := hst.block _ (by simp) (fun e => by have := hg _ e; omega)
  exact ⟨(World.cell?_of_block (a := ⟨w.heap.size, j, none⟩) hb).trans (World.cell?_alloc_new w cs t j), (World.frozen?_of_block (a := ⟨w.heap.size, j, none⟩) hb).trans (World.frozen?_alloc_new w cs t j)⟩

theorem old_block {w w3 : World} {o : Obj} {g : Option Nat} (hst : Stay (fun k => g = some k) (w.alloc o) w3) {k : Nat} (hk : k < w.heap.size) (hg : g ≠ some k) : w3.heap[k]? = w.heap[k]? :=
  (hst.block k (by simp; omega) hg).trans (Below.heap_alloc _ _ k hk)

theorem u8row : ∃ i, Try.prog.info? 5 = some i ∧ i.zero = some (.int .u8 0) ∧ i.size = 1 ∧ i.bytes = 1 :=
  info_parts (show (Try.prog.info? 5).map (fun i => (i.zero, i.size, i.bytes)) = some (some (.int .u8 0), 1, 1) by kernel_rfl)

set_option maxRecDepth 100000 in
set_option maxHeartbeats 1000000 in
theorem append_no (h : DA O w pd b V B room fuse down S) (s d : ByteArray) (hs : s.size ≤ maxLen) (hd : d.size ≤ 140737488355328) (r q f' : Int) (d' : Bool) (hr : refA ⟨room, fuse, down, S⟩ s.data.toList d.data.toList = r)
    (hq : begE ⟨room, fuse, down, S⟩ r = q) (hD : begD ⟨room, fuse, down, S⟩ r = ⟨room, f', d', S⟩) (hq0 : q ≠ 0) :
    Calls Try.prog 15 #[.pointer (some ⟨pd, 0, none⟩), .string s, .string d] w fun e w' => e = .returned (.int .i64 q) ∧ DA O w' pd b V B room f' d' S ∧ Stay O w w' := by
  have C1 : Hid _ := fun (_ : Unit) => refuseAppend_val h s d hs hd r hr
  have C2 : Hid (∀ w', Below w.heap.size w w' → _) := fun w' hb => begin_val (h.below hb) r q f' d' hq hD
  clear h hr hq hD
  go_enter Try.func15, Try.ntmps15
  go_wp2_with fail
  refine (C1.out ()).mono ?_
  rintro e w1 ⟨rfl, b1⟩
  go_wp2_with fail
  refine (C2.out _ b1).mono ?_
  rintro e w2 ⟨rfl, h2, s2, z2⟩
  have HH : Hid _ := h2
  clear h2
  go_wp2
  go_ret
  exact ⟨rfl, HH.out, (Stay.of_below b1).then_same s2⟩

set_option maxRecDepth 100000 in
set_option maxHeartbeats 1000000 in
theorem append_yes (h : DA O w pd b V B room fuse down S) (s d : ByteArray) (hs : s.size ≤ maxLen) (hd : d.size ≤ 140737488355328) (f' : Int) (d' : Bool) (hr : refA ⟨room, fuse, down, S⟩ s.data.toList d.data.toList = 0)
    (hq : begE ⟨room, fuse, down, S⟩ 0 = 0) (hD : begD ⟨room, fuse, down, S⟩ 0 = ⟨room, f', d', S⟩) :
    Calls Try.prog 15 #[.pointer (some ⟨pd, 0, none⟩), .string s, .string d] w fun e w' => e = .returned (.int .i64 0) ∧ (∃ V' B', DA (Grow O w w') w' pd b V' B' room f' d' (fapp s.data.toList d.data.toList S)) ∧ Stay O w w' := by
  have C1 : Hid _ := fun (_ : Unit) => refuseAppend_val h s d hs hd 0 hr
  have C2 : Hid (∀ w', Below w.heap.size w w' → _) := fun w' hb => begin_val (h.below hb) 0 0 f' d' hq hD
  obtain ⟨r1, r2, r3, r4⟩ := refA_zero hr
  have hdl : d.data.toList.length = d.size := Array.length_toList
  rw [flen_eq, hdl] at r2
  simp only [hdl] at r4
  have HR3 : Hid _ := r3
  have HN : Hid _ := nameOk_iff r1
  have hkey := WideMaps.keyOf_string_mk (P := Try.prog) Try.underlying9 hs
  obtain ⟨i, hi1, hi2, hi3, hi4⟩ := u8row
  clear hr hq hD r1 r3
  go_enter Try.func15, Try.ntmps15
  go_wp2_with fail
  refine (C1.out ()).mono ?_
  rintro e w1 ⟨rfl, b1⟩
  go_wp2_with fail
  refine (C2.out _ b1).mono ?_
  rintro e w2 ⟨rfl, h2, s2, -⟩
  clear C1 C2
  have c1 := h2.c1
  have hown := h2.own
  obtain ⟨a, c, g, hat, hy, hg, hL, hsy⟩ := look_byt h2 s.data.toList
  have HH : Hid (DA O w2 pd b V B room f' d' S) := h2
  have HG : Hid (∀ k, g = some k → B s.data.toList = some k ∧ (fget S s.data.toList).isSome) := hg
  have HG2 : Hid (∀ k, g = some k → k < w2.heap.size) := fun k hk => by rw [hk] at hy; exact hy.lt.1
  clear h2 hg
  generalize hl : fdat S s.data.toList = l at *
  generalize hsyn : fsy S s.data.toList = sy at *
  have HL : Hid _ := hl
  have HS : Hid _ := hsyn
  clear hl hsyn
  go_wp2_with (first
    | (at_lookup; refine wpList_look _ rfl _ _ 64 rfl 9 72 lawK Try.underlying64 (zeroF _) (rv_mk _ _ _ _) b _ _ rfl hown _ _ rfl hkey _ hat ?_)
    | (at_builtin; refine wpList_append_byt _ rfl _ _ 57 9 rfl 5 i Try.underlying57 Try.underlying9 hi1 hi2 hi3 hi4 _ l g rfl (hy.stay (w' := w2.alloc _) (O2 := O) (by simp) (fun k hk => Below.heap_alloc _ _ k (by rw [hk] at hy; exact hy.lt.1)) (fun _ e => e)) d rfl (by omega) ?_; intro a' c' w3 g' hy3 hst3 hg3; have t0 := (tmp_cell hst3 HG2.out 0).1; have t1 := (tmp_cell hst3 HG2.out 1).1; have tf := (tmp_cell hst3 HG2.out 0).2; simp only [List.getElem?_toArray, List.getElem?_cons_zero, List.getElem?_cons_succ] at t0 t1))
  obtain ⟨W4, hW4⟩ : ∃ W4, w3.setCell ⟨w2.heap.size, 0, none⟩ (.slice a' (l.length + d.size) c') = W4 := ⟨_, rfl⟩
  have hz3 : w2.heap.size + 1 ≤ w3.heap.size := by have := hst3.size; simpa using this
  have hst4 : Stay (fun k => B s.data.toList = some k ∧ (fget S s.data.toList).isSome) w2 W4 := by
    refine Stay.trans (O2 := fun k => g = some k ∨ k = w2.heap.size) (Stay.of_below ((Below.refl _ w2).alloc (Nat.le_refl _) _)) ((hst3.mono (fun _ e => .inl e)).then_same (hW4 ▸ Stay.setCell w3 ⟨w2.heap.size, 0, none⟩ _ (.inr rfl))) (fun k hk e => e.elim (HG.out k) (fun e => by omega))
  obtain ⟨c14, hown4⟩ := HH.out.but hst4
  have hz4 : W4.heap.size = w3.heap.size := by rw [← hW4]; simp [World.setCell]
  have u0 : W4.cell? ⟨w2.heap.size, 0, none⟩ = some (.slice a' (l.length + d.size) c') := hW4 ▸ World.cell?_setCell_same _ _ _ t0
  have u1 : W4.cell? ⟨w2.heap.size, 1, none⟩ = some (.int .i64 sy) := hW4 ▸ cell_set (by decide) t1
  have hy4 : Byt (Grow O (w2.alloc (.cells #[.slice a l.length c, .int .i64 sy] 72)) w3) W4.drew (.slice a' (l.length + d.size) c') (l ++ d.data.toList) g' := by
    rw [show (l ++ d.data.toList).length = l.length + d.size by rw [List.length_append, hdl]] at hy3
    exact hW4 ▸ (hy3.setCell _ _ (fun e => by
      rcases hg3 _ e with e | e
      · have := HG2.out _ e; simp at this
      · simp at e; omega)).drew
  rw [hW4]
  obtain ⟨W5, hmu, ho5, ht5⟩ := hown4.drew.store lawK Try.underlying64 (by have := HH.out.most; unfold maxLen; omega) hkey (rv_mk a' (l.length + d.size) c' sy)
  have Y4 : Hid _ := hy4
  have S4 : Hid _ := hst4
  have O5 : Hid (W5.ownsMap Try.prog 9 rv b (S.length + 1) ((dm V S).put (.string s.data.toList) (.held (.agg #[.slice a' (l.length + d.size) c', .int .i64 (sy : Int)])))) := ho5
  have T5 : Hid (W4.drew.mapTurned W5 b) := ht5
  have Z4 : Hid _ := hz4
  have G3 : Hid _ := hg3
  have ST3 : Hid _ := hst3
  clear hy4 hst4 ho5 ht5 hz4 hg3 hst3 hy3 hW4 t0 t1 tf hown4 hown c1 hat hy hi1 hi2 hi3 hi4
  go_region
  go_wp2
  go_ret
  have zT : W5.heap.size = W4.heap.size := turned_size (w := W4.drew) T5.out
  have z4 := Z4.out
  have zw := Nat.le_trans b1.size s2.size
  have hsub : ∀ k, Grow O (w2.alloc (.cells #[.slice a l.length c, .int .i64 sy] 72)) w3 k → Grow O w W5 k := fun k hk => hk.elim .inl (fun ⟨e1, e2⟩ => .inr ⟨by simp at e1; omega, by omega⟩)
  have hlt : ∀ k, Grow O w W5 k → k < W4.drew.heap.size := fun k hk => by
    show k < W4.heap.size
    exact hk.elim (fun e => by have := HH.out.lt k e; omega) (fun e => by have := e.2; omega)
  have hput := len_fput HH.out.rise s.data.toList (l ++ d.data.toList, sy)
  have htot := tot_fput HH.out.rise s.data.toList (l ++ d.data.toList, sy)
  have hfl := flen_eq S s.data.toList
  rw [HL.out] at hfl
  have hD := HH.out.put (w1 := W4.drew) (w2 := W5) (O1 := Grow O w W5) (n := s.data.toList) (sl := .slice a' (l.length + d.size) c') (l := l ++ d.data.toList) (s := sy) (g := g')
    (fun k hk => .inl hk) hlt (Y4.out.stay (Nat.le_refl _) (fun _ _ => rfl) hsub) S4.out.drew
    (HH.out.fresh (fun k hk => (G3.out k hk).elim (fun e => .inl (HG.out k e)) (fun e => .inr (by simp at e; omega)))) O5.out T5.out HN.out (by rw [List.length_append, hdl]; omega)
    (by
      cases hsm : fget S s.data.toList with
      | none =>
        rw [hsm] at hput
        have := HR3.out (by rw [hsm]; rfl)
        simp at hput; omega
      | some f =>
        rw [hsm] at hput
        have := HH.out.most
        simp at hput; omega)
    (by simp only [List.length_append, hdl] at htot; omega)
  rw [fapp_eq, HL.out, HS.out]
  refine ⟨rfl, ⟨_, _, hD⟩, ?_⟩
  · refine ((Stay.of_below b1).then_same s2).trans (O2 := fun k => O k) ((S4.out.drew.mono (fun k e => ?_)).then_same (Stay.of_grown T5.out.grown (fun k e => ?_))) (fun _ _ e => e)
    · obtain ⟨f, hf⟩ := Option.isSome_iff_exists.1 e.2
      obtain ⟨sl, _, h4⟩ := HH.out.file _ (fget_mem hf)
      rw [show B (s.data.toList, f).1 = some k from e.1] at h4
      exact h4.lt.2
    · cases e; exact HH.out.oB

end

end Go.Proofs.Ytokldcifhjkmnaa
