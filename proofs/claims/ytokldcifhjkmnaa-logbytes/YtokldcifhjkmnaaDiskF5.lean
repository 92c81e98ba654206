/- The contracts of disk.Sync, refuseRename, Rename. -/
import Derived.Test.YtokldcifhjkmnaaDiskF4
namespace Go.Proofs.Ytokldcifhjkmnaa
open Go.RowKit

section
variable {O : Nat → Prop} {w : World} {pd b : Nat} {V : List UInt8 → Value} {B : List UInt8 → Option Nat} {room fuse : Int} {down : Bool} {S : FS}

/-- What a store into the map leaves. -/
theorem put_done {w2 W4 W5 : World} (HH : DA O w2 pd b V B room fuse down S) (s0 : Stay O w w2) {n : List UInt8} (hst4 : Stay (fun k => B n = some k ∧ (fget S n).isSome) w2 W4) {sl : Value} {l : List UInt8} {sy : Nat} {g : Option Nat}
    (hy : Byt (Grow O w2 W4) W4 sl l g) (hg : ∀ k, g = some k → k ≠ pd ∧ k ≠ b ∧ ∀ q ∈ S, q.1 ≠ n → B q.1 ≠ some k)
    (ho : W5.ownsMap Try.prog 9 rv b (S.length + 1) ((dm V S).put (.string n) (.held (.agg #[sl, .int .i64 (sy : Int)])))) (ht : W4.drew.mapTurned W5 b)
    (hn : 1 ≤ n.length ∧ n.length ≤ 30) (hd : l.length ≤ 400000 ∧ sy ≤ l.length) (hm : (fput S n (l, sy)).length ≤ 20) (hu : (tot (fput S n (l, sy)) : Int) ≤ room) :
    (∃ V' B', DA (Grow O w W5) W5 pd b V' B' room fuse down (fput S n (l, sy))) ∧ Stay O w W5 := by
  have zT : W5.heap.size = W4.heap.size := turned_size (w := W4.drew) ht
  have z0 := s0.size
  have z4 := hst4.size
  have hD := HH.put (w1 := W4.drew) (w2 := W5) (O1 := Grow O w W5) (fun k hk => .inl hk)
    (fun k hk => by
      show k < W4.heap.size
      exact hk.elim (fun e => by have := HH.lt k e; omega) (fun e => by have := e.2; omega))
    (hy.stay (w' := W4.drew) (Nat.le_refl W4.heap.size) (fun _ _ => rfl) (fun k hk => hk.elim .inl (fun e => .inr ⟨by omega, by omega⟩))) hst4.drew hg ho ht hn hd hm hu
  refine ⟨⟨_, _, hD⟩, ?_⟩
  refine s0.then_same ((hst4.drew.mono (fun k e => ?_)).then_same (Stay.of_grown ht.grown (fun k e => ?_)))
  · obtain ⟨f, hf⟩ := Option.isSome_iff_exists.1 e.2
    obtain ⟨sl, _, h4⟩ := HH.file _ (fget_mem hf)
    rw [show B (n, f).1 = some k from e.1] at h4
    exact h4.lt.2
  · cases e; exact HH.oB

set_option maxRecDepth 100000 in
set_option maxHeartbeats 1000000 in
theorem sync_val {ds ds' : DS} (h : DAt O w pd ds) (s : ByteArray) (hs : s.size ≤ maxLen) (q : Int) (hq : begE ds (refM ds.S s.data.toList) = q) (hds : doD ds (refM ds.S s.data.toList) (fsyn s.data.toList) = ds') :
    Calls Try.prog 70 #[.pointer (some ⟨pd, 0, none⟩), .string s] w fun e w' => e = .returned (.int .i64 q) ∧ DAt (Grow O w w') w' pd ds' ∧ Stay O w w' := by
  obtain ⟨room, fuse, down, S⟩ := ds
  have hkey := WideMaps.keyOf_string_mk (P := Try.prog) Try.underlying9 hs
  refine wrap_do _ h q hq hds ?_ ?_
  · intro b V B f' d' h hD hq0
    have C1 : Hid _ := fun (_ : Unit) => refuseMissing_val h s hs _ rfl
    have C2 : Hid (∀ w', Below w.heap.size w w' → _) := fun w' hb => begin_val (h.below hb) _ q f' d' hq hD
    clear h hq hD hds hkey
    go_enter Try.func70, Try.ntmps70
    go_wp2_with fail
    refine (C1.out ()).mono ?_
    rintro e w1 ⟨rfl, b1⟩
    go_wp2_with fail
    refine (C2.out _ b1).mono ?_
    rintro e w2 ⟨rfl, h2, s2, -⟩
    have HH : Hid _ := h2
    clear h2
    go_wp2
    go_ret
    exact ⟨rfl, HH.out, (Stay.of_below b1).then_same s2⟩
  · intro b V B f' d' h hr hq0 hD
    obtain ⟨⟨l, sy⟩, hf⟩ := refM_zero hr
    have C1 : Hid _ := fun (_ : Unit) => refuseMissing_val h s hs 0 hr
    have C2 : Hid (∀ w', Below w.heap.size w w' → _) := fun w' hb => begin_val (h.below hb) 0 0 f' d' hq0 hD
    clear h hq hD hds hq0 hr
    go_enter Try.func70, Try.ntmps70
    go_wp2_with fail
    refine (C1.out ()).mono ?_
    rintro e w1 ⟨rfl, b1⟩
    go_wp2_with fail
    refine (C2.out _ b1).mono ?_
    rintro e w2 ⟨rfl, h2, s2, -⟩
    have HH : Hid (DA O w2 pd b V B room f' d' S) := h2
    have c1 := h2.c1
    have hown := h2.own
    obtain ⟨a, c, hV, hy⟩ := h2.at hf
    have hat : (dm V S).atKey (.string s.data.toList) (.held (.agg #[.slice none 0 0, .int .i64 0])) = .held (.agg #[.slice a l.length c, .int .i64 (sy : Int)]) := by rw [dm_at, hf, hV]; rfl
    have hdat := h2.data _ (fget_mem hf)
    have hl4 : l.length ≤ 400000 := hdat.1
    have hsl : sy ≤ l.length := hdat.2
    have HF : Hid _ := hf
    have HY : Hid (Byt O w2 (.slice a l.length c) l (B s.data.toList)) := hy
    have hnm : 1 ≤ s.data.toList.length ∧ s.data.toList.length ≤ 30 := h2.name _ (fget_mem hf)
    have HN : Hid _ := hnm
    clear h2 C1 C2 hf hV hy hdat hnm
    go_wp2_with (at_lookup; refine wpList_look _ rfl _ _ 64 rfl 9 72 lawK Try.underlying64 (zeroF _) (rv_mk _ _ _ _) b _ _ rfl hown _ _ rfl hkey _ hat ?_)
    obtain ⟨W4, hW4⟩ : ∃ W4, (w2.alloc (.cells #[.slice a l.length c, .int .i64 (l.length : Int)] 72)) = W4 := ⟨_, rfl⟩
    have hst4 : Stay (fun k => B s.data.toList = some k ∧ (fget S s.data.toList).isSome) w2 W4 := hW4 ▸ Stay.of_below ((Below.refl _ w2).alloc (Nat.le_refl _) _)
    obtain ⟨c14, hown4⟩ := HH.out.but hst4
    have u0 : W4.cell? ⟨w2.heap.size, 0, none⟩ = some (.slice a l.length c) := hW4 ▸ World.cell?_alloc_new w2 _ _ 0
    have u1 : W4.cell? ⟨w2.heap.size, 1, none⟩ = some (.int .i64 (l.length : Int)) := hW4 ▸ World.cell?_alloc_new w2 _ _ 1
    have hy4 : Byt (Grow O w2 W4) W4 (.slice a l.length c) l (B s.data.toList) := by
      rw [← hW4]
      have hy := HY.out
      exact hy.stay (by simp) (fun k hk => Below.heap_alloc _ _ k (by rw [hk] at hy; exact hy.lt.1)) (fun _ e => .inl e)
    rw [hW4]
    obtain ⟨W5, hmu, ho5, ht5⟩ := hown4.drew.store lawK Try.underlying64 (by have := HH.out.most; unfold maxLen; omega) hkey (rv_mk a l.length c (l.length : Int))
    have Y4 : Hid _ := hy4
    have S4 : Hid _ := hst4
    have O5 : Hid (W5.ownsMap Try.prog 9 rv b (S.length + 1) ((dm V S).put (.string s.data.toList) (.held (.agg #[.slice a l.length c, .int .i64 (l.length : Int)])))) := ho5
    have T5 : Hid (W4.drew.mapTurned W5 b) := ht5
    clear hy4 hst4 ho5 ht5 hown4 hown c1 hat hW4
    go_region
    go_wp2
    go_ret
    have hput := len_fput HH.out.rise s.data.toList (l, l.length)
    have htot := tot_fput HH.out.rise s.data.toList (l, l.length)
    have hmost := HH.out.most
    have hused := HH.out.used
    rw [HF.out] at hput htot
    have e1 : fsyn s.data.toList S = fput S s.data.toList (l, l.length) := by unfold fsyn; rw [HF.out]
    rw [e1]
    exact ⟨rfl, put_done HH.out ((Stay.of_below b1).then_same s2) S4.out Y4.out (HH.out.fresh (fun k hk => .inl ⟨hk, by rw [HF.out]; rfl⟩)) O5.out T5.out HN.out ⟨hl4, Nat.le_refl _⟩ (by simp at hput; omega) (by simp [flen] at htot; omega)⟩

set_option maxRecDepth 100000 in
theorem refuseRename_val (h : DA O w pd b V B room fuse down S) (s d : ByteArray) (hs : s.size ≤ maxLen) (hd : d.size ≤ maxLen) (q : Int) (hq : refR S s.data.toList d.data.toList = q) :
    Calls Try.prog 71 #[.pointer (some ⟨pd, 0, none⟩), .string s, .string d] w fun e w' => e = .returned (.int .i64 q) ∧ Below w.heap.size w w' := by
  unfold refR at hq
  cases hn : nameOk d.data.toList with
  | false =>
    rw [hn] at hq
    simp at hq
    subst hq
    have C1 : Hid _ := fun w => isName_val d false w hd hn
    clear h hn
    go_enter Try.func71, Try.ntmps71
    go_wp2_with (go_at_call 61; refine (C1.out _).mono ?_; rintro e w1 ⟨rfl, rfl⟩)
    go_ret
    exact ⟨rfl, Below.refl _ _⟩
  | true =>
    rw [hn] at hq
    simp at hq
    have C1 : Hid _ := fun w => isName_val d true w hd hn
    have C2 : Hid _ := fun (_ : Unit) => refuseMissing_val h s hs q hq
    clear h hn hq
    go_enter Try.func71, Try.ntmps71
    go_wp2_with fail
    refine (C1.out _).mono ?_
    rintro e w1 ⟨rfl, hw1⟩
    subst hw1
    go_wp2_with fail
    refine (C2.out ()).mono ?_
    rintro e w2 ⟨rfl, b2⟩
    go_wp2
    go_ret
    exact ⟨rfl, b2⟩

set_option maxRecDepth 100000 in
set_option maxHeartbeats 1000000 in
theorem rename_val {ds ds' : DS} (h : DAt O w pd ds) (s d : ByteArray) (hs : s.size ≤ maxLen) (hd : d.size ≤ maxLen) (q : Int) (hq : begE ds (refR ds.S s.data.toList d.data.toList) = q) (hds : doD ds (refR ds.S s.data.toList d.data.toList) (fren s.data.toList d.data.toList) = ds') :
    Calls Try.prog 53 #[.pointer (some ⟨pd, 0, none⟩), .string s, .string d] w fun e w' => e = .returned (.int .i64 q) ∧ DAt (Grow O w w') w' pd ds' ∧ Stay O w w' := by
  obtain ⟨room, fuse, down, S⟩ := ds
  have hkey := WideMaps.keyOf_string_mk (P := Try.prog) Try.underlying9 hs
  have hkey2 := WideMaps.keyOf_string_mk (P := Try.prog) Try.underlying9 hd
  refine wrap_do _ h q hq hds ?_ ?_
  · intro b V B f' d' h hD hq0
    have C1 : Hid _ := fun (_ : Unit) => refuseRename_val h s d hs hd _ rfl
    have C2 : Hid (∀ w', Below w.heap.size w w' → _) := fun w' hb => begin_val (h.below hb) _ q f' d' hq hD
    clear h hq hD hds hkey hkey2
    go_enter Try.func53, Try.ntmps53
    go_wp2_with fail
    refine (C1.out ()).mono ?_
    rintro e w1 ⟨rfl, b1⟩
    go_wp2_with fail
    refine (C2.out _ b1).mono ?_
    rintro e w2 ⟨rfl, h2, s2, -⟩
    have HH : Hid _ := h2
    clear h2
    go_wp2
    go_ret
    exact ⟨rfl, HH.out, (Stay.of_below b1).then_same s2⟩
  · intro b V B f' d' h hr hq0 hD
    obtain ⟨hno, ⟨l, sy⟩, hf⟩ := refR_zero hr
    have HN : Hid _ := nameOk_iff hno
    have C1 : Hid _ := fun (_ : Unit) => refuseRename_val h s d hs hd 0 hr
    have C2 : Hid (∀ w', Below w.heap.size w w' → _) := fun w' hb => begin_val (h.below hb) 0 0 f' d' hq0 hD
    clear h hq hD hds hq0 hr hno
    go_enter Try.func53, Try.ntmps53
    go_wp2_with fail
    refine (C1.out ()).mono ?_
    rintro e w1 ⟨rfl, b1⟩
    go_wp2_with fail
    refine (C2.out _ b1).mono ?_
    rintro e w2 ⟨rfl, h2, s2, -⟩
    have HH : Hid (DA O w2 pd b V B room f' d' S) := h2
    have c1 := h2.c1
    have hown := h2.own
    obtain ⟨a, c, hV, hy⟩ := h2.at hf
    have hat : (dm V S).atKey (.string s.data.toList) (.held (.agg #[.slice none 0 0, .int .i64 0])) = .held (.agg #[.slice a l.length c, .int .i64 (sy : Int)]) := by rw [dm_at, hf, hV]; rfl
    have hdat := h2.data _ (fget_mem hf)
    have hl4 : l.length ≤ 400000 := hdat.1
    have hsl : sy ≤ l.length := hdat.2
    have HF : Hid _ := hf
    have HY : Hid (Byt O w2 (.slice a l.length c) l (B s.data.toList)) := hy
    have c1a : ∀ o, (w2.alloc o).cell? ⟨pd, 1, none⟩ = some (.map (some b)) := fun o => (h2.below ((Below.refl _ w2).alloc (Nat.le_refl _) o)).c1
    clear h2 C1 C2 hf hV hy hdat
    go_wp2_with (first
      | (at_lookup; refine wpList_look _ rfl _ _ 64 rfl 9 72 lawK Try.underlying64 (zeroF _) (rv_mk _ _ _ _) b _ _ rfl hown _ _ rfl hkey _ hat ?_)
      | (at_delete; refine wpList_delete_own _ rfl _ _ 64 9 rfl 72 lawK Try.underlying64 rv b _ _ rfl (hown.alloc _) _ _ rfl hkey ?_; intro W4 ho4 ht4))
    obtain ⟨w3, hw3⟩ : ∃ w3, w2.alloc (.cells #[.slice a l.length c, .int .i64 (sy : Int)] 72) = w3 := ⟨_, rfl⟩
    rw [hw3] at ht4
    have hb3 : Below w2.heap.size w2 w3 := hw3 ▸ (Below.refl _ w2).alloc (Nat.le_refl _) _
    have h3 := HH.out.below hb3
    have h4 := h3.del ho4 ht4
    have hbt : ∀ k, k ≠ b → k < w3.heap.size → W4.heap[k]? = w3.heap[k]? := fun k hk hl => ht4.grown.block k hl (by simpa using hk)
    have hlt2 : w2.heap.size < w3.heap.size := by rw [← hw3]; simp
    have hbw : b < w2.heap.size := HH.out.lt b HH.out.oB
    have u0 : W4.cell? ⟨w2.heap.size, 0, none⟩ = some (.slice a l.length c) := (World.cell?_of_block (a := ⟨w2.heap.size, 0, none⟩) (hbt w2.heap.size (by omega) hlt2)).trans (hw3 ▸ World.cell?_alloc_new w2 _ _ 0)
    have u1 : W4.cell? ⟨w2.heap.size, 1, none⟩ = some (.int .i64 (sy : Int)) := (World.cell?_of_block (a := ⟨w2.heap.size, 1, none⟩) (hbt w2.heap.size (by omega) hlt2)).trans (hw3 ▸ World.cell?_alloc_new w2 _ _ 1)
    have c14 := h4.c1
    have hown4 := h4.own
    obtain ⟨W5, hmu, ho5, ht5⟩ := hown4.drew.store lawK Try.underlying64 (by have := h4.most; unfold maxLen; omega) hkey2 (rv_mk a l.length c (sy : Int))
    have hyB := HY.out
    have hy4 : Byt (Grow O W4 W4) W4 (.slice a l.length c) l (B s.data.toList) :=
      hyB.stay (Nat.le_trans hb3.size (by rw [turned_size ht4]; exact Nat.le_refl _)) (fun k hk => by
        have hn := (HH.out.nP _ (fget_mem HF.out)).2
        have hk2 : B s.data.toList = some k := hk
        rw [hk2] at hyB
        have := hyB.lt.1
        exact (hbt k (fun e => hn (by rw [show B (s.data.toList, (l, sy)).1 = some k from hk, e])) (by omega)).trans (hb3.block k this)) (fun _ e => .inl e)
    have H4 : Hid (DA O W4 pd b V B room f' d' (fdel S s.data.toList)) := h4
    have ST4 : Hid (Stay O w2 W4) := (Stay.of_below hb3).then_same (Stay.of_grown ht4.grown (fun k e => by cases e; exact HH.out.oB))
    have Y4 : Hid _ := hy4
    have O5 : Hid (W5.ownsMap Try.prog 9 rv b ((fdel S s.data.toList).length + 1) ((dm V (fdel S s.data.toList)).put (.string d.data.toList) (.held (.agg #[.slice a l.length c, .int .i64 (sy : Int)])))) := ho5
    have T5 : Hid (W4.drew.mapTurned W5 b) := ht5
    clear h4 h3 hy4 ho5 ht5 hown4 hown c1 c1a hat hw3 ho4 ht4 hbt hyB hb3
    go_region
    all_goals
      go_wp2
      go_ret
      have hput := len_fput H4.out.rise d.data.toList (l, sy)
      have htot := tot_fput H4.out.rise d.data.toList (l, sy)
      have hdl := len_fdel HH.out.rise s.data.toList
      have hdt := tot_fdel HH.out.rise s.data.toList
      have hmost := HH.out.most
      have hused := HH.out.used
      rw [HF.out] at hdl hdt
      simp [flen] at hdl hdt
      have e1 : fren s.data.toList d.data.toList S = fput (fdel S s.data.toList) d.data.toList (l, sy) := by unfold fren; rw [HF.out]
      rw [e1]
      exact ⟨rfl, put_done H4.out ((Stay.of_below b1).then_same (s2.then_same ST4.out)) (Stay.refl _ _) Y4.out (fun k hk => ⟨fun e => (HH.out.nP _ (fget_mem HF.out)).1 (by rw [← e]; exact hk), fun e => (HH.out.nP _ (fget_mem HF.out)).2 (by rw [← e]; exact hk), fun q hq _ hq2 => HH.out.apart q (mem_fdel.1 hq).1 _ (fget_mem HF.out) (mem_fdel.1 hq).2 k hq2 hk⟩) O5.out T5.out HN.out ⟨hl4, hsl⟩ (by omega) (by simp only at htot; omega)⟩

end

end Go.Proofs.Ytokldcifhjkmnaa
