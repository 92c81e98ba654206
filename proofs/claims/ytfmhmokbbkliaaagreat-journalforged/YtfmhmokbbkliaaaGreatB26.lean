/- Part 26 of the proof: PlayF3, PlayF4, PlayF5, PlayF6, PlayF7, PlayHalf, PlayList. -/
import Derived.Test.YtfmhmokbbkliaaaGreatB04
import Derived.Test.YtfmhmokbbkliaaaGreatB15
import Derived.Test.YtfmhmokbbkliaaaGreatB25

/- The contracts of tabulariumref04.Delete, Sync, Read, Used. -/
namespace Go.Proofs.YtfmhmokbbkliaaaGreat
open Go.RowKit

/-! ### by place -/
theorem fget_at {S : FS} (hS : Rise S) {i : Nat} (hi : i < S.length) {n : List UInt8} (hn : S[i].1 = n) : fget S n = some S[i].2 :=
  mem_fget hS (by rw [← hn]; exact List.getElem_mem hi)
theorem mid_at {S : FS} {i : Nat} (hi : i < S.length) {n : List UInt8} (hn : S[i].1 = n) : S = S.take i ++ (n, S[i].2) :: S.drop (i + 1) := by
  rw [← hn]; exact cut_at S i hi
theorem fdel_at {S : FS} (hS : Rise S) {i : Nat} (hi : i < S.length) {n : List UInt8} (hn : S[i].1 = n) : fdel S n = S.take i ++ S.drop (i + 1) := by
  have e := mid_at hi hn
  generalize S[i].2 = f at e
  generalize S.take i = A at *
  generalize S.drop (i + 1) = B at *
  rw [e] at hS ⊢
  exact fdel_mid hS
theorem fput_at {S : FS} (hS : Rise S) {i : Nat} (hi : i < S.length) {n : List UInt8} (hn : S[i].1 = n) (f : List UInt8 × Nat) : fput S n f = S.set i (n, f) := by
  have e := mid_at hi hn
  have e2 : S.set i (n, f) = S.take i ++ (n, f) :: S.drop (i + 1) := by rw [List.set_eq_take_append_cons_drop, if_pos hi]
  rw [e2]
  clear e2
  generalize S[i].2 = f0 at e
  generalize S.take i = A at *
  generalize S.drop (i + 1) = B at *
  rw [e] at hS ⊢
  exact fput_mid hS

theorem beg_no {room fuse : Int} {S : FS} (hb : begE ⟨room, fuse, false, S⟩ 0 ≠ 12) (hf : Fit ⟨room, fuse, false, S⟩) : begE ⟨room, fuse, false, S⟩ 0 = 0 ∧ ∃ F, begD ⟨room, fuse, false, S⟩ 0 = ⟨room, F, false, S⟩ ∧ Fit ⟨room, F, false, S⟩ := by
  have hfu : 0 ≤ fuse ∧ fuse < 9223372036854775808 := hf.fu
  unfold begE at hb ⊢
  unfold begD
  by_cases h0 : fuse = 0
  · simp [h0]
    rw [h0] at hf
    exact hf
  · by_cases h1 : fuse = 1
    · simp [h1] at hb
    · simp [h0, h1]
      exact ⟨hf.rise, hf.name, hf.data, hf.most, hf.r0, by show 0 ≤ fuse - 1 ∧ fuse - 1 < _; omega⟩

theorem filCs_set : ∀ (S : FS) (i : Nat) (x : Fl), i < S.length → filCs (S.set i x) = (((filCs S).set (i * 3) (.string (ba x.1))).set (i * 3 + 1) (.string (ba x.2.1))).set (i * 3 + 2) (.int .i64 (x.2.2 : Int))
  | [], _, _, h => by simp at h
  | p :: S, 0, x, _ => rfl
  | p :: S, i + 1, x, h => by
    have := filCs_set S i x (by simpa using h)
    show filC p ++ filCs (S.set i x) = _
    rw [this]
    rw [show (i + 1) * 3 = i * 3 + 3 by omega]
    rfl

theorem list_set_same {α : Type _} {l : List α} {i : Nat} {v : α} (h : l[i]? = some v) : l.set i v = l := by
  apply List.ext_getElem?
  intro j
  by_cases e : i = j
  · subst e
    obtain ⟨h1, h2⟩ := List.getElem?_eq_some_iff.1 h
    rw [List.getElem?_set_self h1, h]
  · rw [List.getElem?_set_ne e]

theorem sync_cells (S : FS) (i : Nat) (hi : i < S.length) (v : Value) : (((filCs S).set (i * 3) (.string (ba S[i].1))).set (i * 3 + 1) (.string (ba S[i].2.1))).set (i * 3 + 2) v = (filCs S).set (i * 3 + 2) v := by
  obtain ⟨h0, h1, _⟩ := filCs_at S i hi
  rw [list_set_same h0, list_set_same h1]

theorem data_cells (S : FS) (i : Nat) (hi : i < S.length) (v : Value) : (((filCs S).set (i * 3) (.string (ba S[i].1))).set (i * 3 + 1) v).set (i * 3 + 2) (.int .i64 (S[i].2.2 : Int)) = (filCs S).set (i * 3 + 1) v := by
  obtain ⟨h0, _, h2⟩ := filCs_at S i hi
  rw [list_set_same h0, list_set_same (i := i * 3 + 2)]
  rw [List.getElem?_set_ne (by omega)]; exact h2

section
variable {O : Nat → Prop} {w : World} {p : Nat} {a : Option Addr} {c : Nat} {g : Option Nat} {ds : DS}

theorem RAt.wide {O2 : Nat → Prop} (h : RAt O w p a c g ds) (hO : ∀ k, O k → O2 k) (hl : ∀ k, O2 k → k < w.heap.size) : RAt O2 w p a c g ds :=
  ⟨hl, hO p h.oP, h.c0, h.c1, h.c2, h.c3, h.f1, h.f2, h.f3, h.cel.stay (Nat.le_refl _) (fun _ _ => rfl) hO, h.ne⟩

theorem RAt.grow (h : RAt O w p a c g ds) (w0 : World) : RAt (Grow O w0 w) w p a c g ds := h.wide (fun _ => .inl) (fun k hk => hk.elim (h.lt k) (fun e => e.2))

theorem RAt.wider {w0 w1 : World} (h : RAt (Grow O w1 w) w p a c g ds) (hs : w0.heap.size ≤ w1.heap.size) (hO : ∀ k, O k → k < w.heap.size) : RAt (Grow O w0 w) w p a c g ds :=
  h.wide (fun _ hk => hk.elim .inl (fun e => .inr ⟨Nat.le_trans hs e.1, e.2⟩)) (fun k hk => hk.elim (hO k) (fun e => e.2))

theorem Cel.put {size : Nat} {sl : Value} {n : Nat} {cs : List Value} {k : Nat} (h : Cel O w size sl n cs (some k)) (j : Nat) (hj : j < cs.length) (v : Value) : Cel O (w.setCell ⟨k, j, none⟩ v) size sl n (cs.set j v) (some k) := by
  cases h with
  | row g cap h1 hl h2 h3 h4 h5 h6 h7 =>
    refine .row k cap h1 (by rw [List.length_set]; exact hl) h2 (by simpa [World.setCell] using h3) h4 h5 (fun i hi => ?_) (fun i hi => ⟨?_, ?_⟩)
    · have hi2 : i < cs.length := by rwa [List.length_set] at hi
      by_cases e : i = j
      · subst e
        rw [World.cell?_setCell_same _ _ _ (h6 i hi2), List.getElem_set_self]
      · rw [cell_setP e (h6 i hi2), List.getElem_set_ne (Ne.symm e)]
    · by_cases e : i = j
      · subst e
        rw [World.cell?_setCell_same _ _ _ (h6 i hj)]; rfl
      · obtain ⟨u, hu⟩ := Option.isSome_iff_exists.1 (h7 i hi).1
        rw [cell_setP e hu]; rfl
    · rw [World.frozen?_setCell]; exact (h7 i hi).2

theorem RAt.live {k : Nat} (h : RAt O w p a c (some k) ds) (j : Nat) (hj : j < ds.S.length * 3) : w.frozen? ⟨k, j, none⟩ = false := by
  have hc := h.cel
  cases hc with
  | row g cap h1 hl h2 h3 h4 h5 h6 h7 => exact (h7 j (by have := Nat.mul_le_mul_right 3 h4; omega)).2

/-- One cell of a file. -/
theorem RAt.setFile {k : Nat} (h : RAt O w p a c (some k) ds) (i j : Nat) (hi : i < ds.S.length) (hj : j < 3) (x : Fl) (v : Value) (hx : filCs (ds.S.set i x) = (filCs ds.S).set (i * 3 + j) v) :
    RAt O (w.setCell ⟨k, i * 3 + j, none⟩ v) p a c (some k) { ds with S := ds.S.set i x } ∧ Stay O w (w.setCell ⟨k, i * 3 + j, none⟩ v) := by
  have hc := h.cel
  have hne : p ≠ k := fun e => h.ne (by rw [e])
  have hb : ∀ w0 : World, (w0.setCell ⟨k, i * 3 + j, none⟩ v).heap[p]? = w0.heap[p]? := fun w0 => Below.heap_setCell _ _ _ _ hne
  have ec : ∀ q, (w.setCell ⟨k, i * 3 + j, none⟩ v).cell? ⟨p, q, none⟩ = w.cell? ⟨p, q, none⟩ := fun q => World.cell?_of_block (a := ⟨p, q, none⟩) (hb w)
  have hl : (ds.S.set i x).length = ds.S.length := List.length_set
  refine ⟨⟨fun q hq => by simpa [World.setCell] using h.lt q hq, h.oP, (ec 0).trans h.c0, ?_, (ec 2).trans h.c2, (ec 3).trans h.c3, by rw [World.frozen?_setCell]; exact h.f1, by rw [World.frozen?_setCell]; exact h.f2, by rw [World.frozen?_setCell]; exact h.f3, ?_, h.ne⟩, Stay.setCell w ⟨k, i * 3 + j, none⟩ v hc.lt.2⟩
  · show _ = some (Value.slice a (ds.S.set i x).length c)
    rw [hl]; exact (ec 1).trans h.c1
  · show Cel O _ 3 (.slice a (ds.S.set i x).length c) (ds.S.set i x).length (filCs (ds.S.set i x)) (some k)
    rw [hl, hx]
    exact hc.put _ (by rw [filCs_len]; omega) v

set_option maxRecDepth 100000 in
set_option maxHeartbeats 1000000 in
theorem refDelete_val (h : RAt O w p a c g ds) (hf : Fit ds) (n : List UInt8) (q : Int) (hq : begE ds (refM ds.S n) = q) {ds' : DS} (hds : doD ds (refM ds.S n) (fun S => fdel S n) = ds') :
    Calls Tryz.prog 139 #[.pointer (some ⟨p, 0, none⟩), .string (ba n)] w fun e w' => e = .returned (.int .i64 q) ∧ (∃ a' c' g', RAt (Grow O w w') w' p a' c' g' ds') ∧ Stay O w w' := by
  have CA : Hid _ := fun (_ : Unit) => refAt_val h hf n
  obtain ⟨room, fuse, down, S⟩ := ds
  have c3 : w.cell? ⟨p, 3, none⟩ = some (.bool down) := h.c3
  cases down with
  | true =>
    have e1 : (12 : Int) = q := by rw [← hq]; unfold begE; simp
    have e2 : (⟨room, fuse, true, S⟩ : DS) = ds' := by rw [← hds]; unfold doD begE begD; simp
    subst e1 e2
    have HF : Hid _ := h.grow w
    clear h hq hds
    go_enter Tryz.func139, Tryz.ntmps139
    go_wp2_with fail
    refine (CA.out ()).mono ?_
    rintro e w1 ⟨Z, rfl, hw1, -⟩
    subst hw1
    clear CA
    go_wp2
    go_ret
    exact ⟨rfl, ⟨_, _, _, HF.out⟩, Stay.refl _ _⟩
  | false =>
    have CB : Hid _ := fun v hv => refBlows_val h hf v hv
    have HR : Hid _ := h
    have hrise := hf.rise
    clear h
    go_enter Tryz.func139, Tryz.ntmps139
    go_wp2_with fail
    refine (CA.out ()).mono ?_
    rintro e w1 ⟨Z, rfl, hw1, hZ⟩
    subst hw1
    clear CA
    rcases hZ with ⟨rfl, hno⟩ | ⟨i, hi, rfl, hn⟩
    · have e5 : refM S n = 5 := by unfold refM; rw [show fget S n = none from hno]; rfl
      have e1 : (5 : Int) = q := by rw [← hq]; show _ = begE _ (refM S n); rw [e5]; unfold begE; simp
      have e2 : (⟨room, fuse, false, S⟩ : DS) = ds' := by rw [← hds]; show _ = doD _ (refM S n) _; rw [e5]; unfold doD begE begD; simp
      subst e1 e2
      clear hq hds CB hno e5
      go_wp2
      go_ret
      exact ⟨rfl, ⟨_, _, _, HR.out.grow _⟩, Stay.refl _ _⟩
    · have e0 : refM S n = 0 := by unfold refM; rw [show fget S n = _ from fget_at hrise hi hn]; rfl
      have hq' : begE ⟨room, fuse, false, S⟩ 0 = q := by rw [← hq]; show _ = begE _ (refM S n); rw [e0]
      have hds' : doD ⟨room, fuse, false, S⟩ 0 (fun S => fdel S n) = ds' := by rw [← hds]; show _ = doD _ (refM S n) _; rw [e0]
      clear hq hds e0
      by_cases hb : begE ⟨room, fuse, false, S⟩ 0 = 12
      · have e1 : (12 : Int) = q := by rw [← hq', hb]
        have e2 : begD ⟨room, fuse, false, S⟩ 0 = ds' := by rw [← hds']; unfold doD; rw [if_neg (by rw [hb]; decide)]
        subst e1
        have HB : Hid _ := hb
        have HE2 : Hid _ := e2
        clear hq' hds' hb e2
        go_wp2_with fail
        refine (CB.out true (decide_eq_true HB.out)).mono ?_
        rintro e w2 ⟨rfl, h2, hs2⟩
        have H2 : Hid _ := h2
        have S2 : Hid _ := hs2
        clear h2 hs2 CB
        go_wp2
        go_ret
        exact ⟨rfl, ⟨_, _, _, by rw [← HE2.out]; exact H2.out.grow _⟩, S2.out⟩
      · obtain ⟨b0, F, hbD, hfit⟩ := beg_no hb hf
        have e1 : (0 : Int) = q := by rw [← hq', b0]
        have e2 : (⟨room, F, false, S.take i ++ S.drop (i + 1)⟩ : DS) = ds' := by
          rw [← hds']; unfold doD; rw [if_pos b0, hbD]; show _ = DS.mk _ _ _ (fdel S n); rw [fdel_at hrise hi hn]
        subst e1
        have HB : Hid _ := hb
        have HE2 : Hid _ := e2
        have HFIT : Hid _ := hfit
        have HBD : Hid _ := hbD
        clear hq' hds' hb e2 b0 hfit hbD
        go_wp2_with fail
        refine (CB.out false (decide_eq_false HB.out)).mono ?_
        rintro e w2 ⟨rfl, h2, hs2⟩
        rw [HBD.out] at h2
        have CO : Hid _ := fun (_ : Unit) => refOut_val h2 HFIT.out i hi
        have S2 : Hid _ := hs2
        clear h2 hs2 CB
        go_wp2_with fail
        refine (CO.out ()).mono ?_
        rintro e w3 ⟨rfl, ⟨a3, c3, g3, h3⟩, hs3⟩
        have H3 : Hid _ := h3
        have S3 : Hid _ := hs3
        clear h3 hs3 CO
        go_wp2
        go_ret
        exact ⟨rfl, ⟨_, _, _, by rw [← HE2.out]; exact H3.out.wider S2.out.size (fun k hk => H3.out.lt k (.inl hk))⟩, S2.out.then_same S3.out⟩

set_option maxRecDepth 100000 in
set_option maxHeartbeats 1000000 in
theorem refSync_val (h : RAt O w p a c g ds) (hf : Fit ds) (n : List UInt8) (q : Int) (hq : begE ds (refM ds.S n) = q) {ds' : DS} (hds : doD ds (refM ds.S n) (fsyn n) = ds') :
    Calls Tryz.prog 140 #[.pointer (some ⟨p, 0, none⟩), .string (ba n)] w fun e w' => e = .returned (.int .i64 q) ∧ (∃ a' c' g', RAt (Grow O w w') w' p a' c' g' ds') ∧ Stay O w w' := by
  have CA : Hid _ := fun (_ : Unit) => refAt_val h hf n
  obtain ⟨room, fuse, down, S⟩ := ds
  have c3 : w.cell? ⟨p, 3, none⟩ = some (.bool down) := h.c3
  cases down with
  | true =>
    have e1 : (12 : Int) = q := by rw [← hq]; unfold begE; simp
    have e2 : (⟨room, fuse, true, S⟩ : DS) = ds' := by rw [← hds]; unfold doD begE begD; simp
    subst e1 e2
    have HF : Hid _ := h.grow w
    clear h hq hds
    go_enter Tryz.func140, Tryz.ntmps140
    go_wp2_with fail
    refine (CA.out ()).mono ?_
    rintro e w1 ⟨Z, rfl, hw1, -⟩
    subst hw1
    clear CA
    go_wp2
    go_ret
    exact ⟨rfl, ⟨_, _, _, HF.out⟩, Stay.refl _ _⟩
  | false =>
    have CB : Hid _ := fun v hv => refBlows_val h hf v hv
    have HR : Hid _ := h
    have hrise := hf.rise
    clear h
    go_enter Tryz.func140, Tryz.ntmps140
    go_wp2_with fail
    refine (CA.out ()).mono ?_
    rintro e w1 ⟨Z, rfl, hw1, hZ⟩
    subst hw1
    clear CA
    rcases hZ with ⟨rfl, hno⟩ | ⟨i, hi, rfl, hn⟩
    · have e5 : refM S n = 5 := by unfold refM; rw [show fget S n = none from hno]; rfl
      have e1 : (5 : Int) = q := by rw [← hq]; show _ = begE _ (refM S n); rw [e5]; unfold begE; simp
      have e2 : (⟨room, fuse, false, S⟩ : DS) = ds' := by rw [← hds]; show _ = doD _ (refM S n) _; rw [e5]; unfold doD begE begD; simp
      subst e1 e2
      clear hq hds CB hno e5
      go_wp2
      go_ret
      exact ⟨rfl, ⟨_, _, _, HR.out.grow _⟩, Stay.refl _ _⟩
    · have e0 : refM S n = 0 := by unfold refM; rw [show fget S n = _ from fget_at hrise hi hn]; rfl
      have hq' : begE ⟨room, fuse, false, S⟩ 0 = q := by rw [← hq]; show _ = begE _ (refM S n); rw [e0]
      have hds' : doD ⟨room, fuse, false, S⟩ 0 (fsyn n) = ds' := by rw [← hds]; show _ = doD _ (refM S n) _; rw [e0]
      clear hq hds e0
      by_cases hb : begE ⟨room, fuse, false, S⟩ 0 = 12
      · have e1 : (12 : Int) = q := by rw [← hq', hb]
        have e2 : begD ⟨room, fuse, false, S⟩ 0 = ds' := by rw [← hds']; unfold doD; rw [if_neg (by rw [hb]; decide)]
        subst e1
        have HB : Hid _ := hb
        have HE2 : Hid _ := e2
        clear hq' hds' hb e2
        go_wp2_with fail
        refine (CB.out true (decide_eq_true HB.out)).mono ?_
        rintro e w2 ⟨rfl, h2, hs2⟩
        have H2 : Hid _ := h2
        have S2 : Hid _ := hs2
        clear h2 hs2 CB
        go_wp2
        go_ret
        exact ⟨rfl, ⟨_, _, _, by rw [← HE2.out]; exact H2.out.grow _⟩, S2.out⟩
      · obtain ⟨b0, F, hbD, hfit⟩ := beg_no hb hf
        have e1 : (0 : Int) = q := by rw [← hq', b0]
        have e2 : (⟨room, F, false, S.set i (n, S[i].2.1, S[i].2.1.length)⟩ : DS) = ds' := by
          rw [← hds']; unfold doD; rw [if_pos b0, hbD]; show _ = DS.mk _ _ _ (fsyn n S); unfold fsyn; rw [show fget S n = _ from fget_at hrise hi hn]; show _ = DS.mk _ _ _ (fput S n _); rw [fput_at hrise hi hn]
        subst e1
        have HB : Hid _ := hb
        have HE2 : Hid _ := e2
        have HFIT : Hid _ := hfit
        have HBD : Hid _ := hbD
        clear hq' hds' hb e2 b0 hfit hbD
        go_wp2_with fail
        refine (CB.out false (decide_eq_false HB.out)).mono ?_
        rintro e w2 ⟨rfl, h2, hs2⟩
        rw [HBD.out] at h2
        obtain ⟨k, rfl, rfl, q0, q1, q2⟩ := h2.file hi
        have hsf := h2.setFile i 2 hi (by omega) (n, S[i].2.1, S[i].2.1.length) (.int .i64 (S[i].2.1.length : Int)) (by rw [filCs_set _ _ _ hi]; rw [show n = S[i].1 from hn.symm]; exact sync_cells S i hi _)
        have d1 : w2.cell? ⟨p, 1, none⟩ = some (.slice (some ⟨k, 0, none⟩) S.length c) := h2.c1
        have lv := h2.live (i * 3 + 2) (by show _ < S.length * 3; omega)
        have HS : Hid _ := hsf
        have S2 : Hid _ := hs2
        have hlS : S.length ≤ 20 := HFIT.out.most
        have hld : S[i].2.1.length ≤ 400000 := (HFIT.out.data _ (List.getElem_mem hi)).1
        clear hsf h2 hs2 CB
        have hi' : i < S.length := hi
        have q0' : w2.cell? ⟨k, i * 3, none⟩ = some (.string (ba S[i].1)) := q0
        have q1' : w2.cell? ⟨k, i * 3 + 1, none⟩ = some (.string (ba S[i].2.1)) := q1
        have q2' : w2.cell? ⟨k, i * 3 + 2, none⟩ = some (.int .i64 (S[i].2.2 : Int)) := q2
        have hbs : (ba S[i].2.1).size = S[i].2.1.length := ba_size _
        clear q0 q1 q2 q0' hrise
        go_wp2
        go_region
        go_wp2
        go_ret
        exact ⟨rfl, ⟨_, _, _, by rw [← HE2.out]; exact (HS.out.1.below ((Below.refl _ _).drew)).grow _⟩, (S2.out.then_same HS.out.2).drew⟩

set_option maxRecDepth 100000 in
set_option maxHeartbeats 1000000 in
theorem refRead_val (h : RAt O w p a c g ds) (hf : Fit ds) (n : List UInt8) (t : ByteArray) (q : Int) (ht : rdT ds n = t) (hq : rdE ds n = q) :
    Calls Tryz.prog 59 #[.pointer (some ⟨p, 0, none⟩), .string (ba n)] w fun e w' => e = .returned (.tuple #[.string t, .int .i64 q]) ∧ w' = w := by
  have CA : Hid _ := fun (_ : Unit) => refAt_val h hf n
  obtain ⟨room, fuse, down, S⟩ := ds
  have c3 : w.cell? ⟨p, 3, none⟩ = some (.bool down) := h.c3
  cases down with
  | true =>
    simp only [rdT, rdE, if_true] at ht hq
    subst ht hq
    clear h
    go_enter Tryz.func59, Tryz.ntmps59
    go_wp2_with fail
    refine (CA.out ()).mono ?_
    rintro e w1 ⟨Z, rfl, hw1, -⟩
    subst hw1
    clear CA
    go_wp2
    go_ret2
    exact ⟨rfl, rfl⟩
  | false =>
    simp only [rdT, rdE, Bool.false_eq_true, if_false] at ht hq
    have HR : Hid _ := h
    have hrise := hf.rise
    have hm : S.length ≤ 20 := hf.most
    clear h
    go_enter Tryz.func59, Tryz.ntmps59
    go_wp2_with fail
    refine (CA.out ()).mono ?_
    rintro e w1 ⟨Z, rfl, hw1, hZ⟩
    subst hw1
    clear CA
    rcases hZ with ⟨rfl, hno⟩ | ⟨i, hi, rfl, hn⟩
    · have e5 : (5 : Int) = q := by rw [← hq]; unfold refM; rw [show fget S n = none from hno]; rfl
      have et : (⟨#[]⟩ : ByteArray) = t := by rw [← ht]; unfold fdat; rw [show fget S n = none from hno]
      subst e5 et
      clear ht hq hno
      go_wp2
      go_ret2
      exact ⟨rfl, rfl⟩
    · have hg := fget_at hrise hi hn
      have e5 : (0 : Int) = q := by rw [← hq]; unfold refM; rw [show fget S n = _ from hg]; rfl
      have et : ba S[i].2.1 = t := by rw [← ht]; unfold fdat; rw [show fget S n = _ from hg]; rfl
      obtain ⟨k, rfl, rfl, q0, q1, q2⟩ := HR.out.file hi
      have q1' : w1.cell? ⟨k, i * 3 + 1, none⟩ = some (.string (ba S[i].2.1)) := q1
      have hi' : i < S.length := hi
      have d1 : w1.cell? ⟨p, 1, none⟩ = some (.slice (some ⟨k, 0, none⟩) S.length c) := HR.out.c1
      rw [et] at q1'
      subst e5
      clear ht hq hg et q0 q1 q2 hrise
      go_wp2
      go_ret2
      exact ⟨rfl, rfl⟩

set_option maxRecDepth 100000 in
set_option maxHeartbeats 1000000 in
theorem refUsed_val (h : RAt O w p a c g ds) (hf : Fit ds) (n : Nat) (hn : usedN ds = n) :
    Calls Tryz.prog 76 #[.pointer (some ⟨p, 0, none⟩)] w fun e w' => e = .returned (.int .i64 (n : Int)) ∧ w' = w := by
  have CB : Hid _ := fun T hT => refBytes_val h hf T hT
  obtain ⟨room, fuse, down, S⟩ := ds
  have c3 : w.cell? ⟨p, 3, none⟩ = some (.bool down) := h.c3
  cases down with
  | true =>
    have e : 0 = n := by rw [← hn]; rfl
    subst e
    clear h CB hn
    go_enter Tryz.func76, Tryz.ntmps76
    go_wp2
    go_ret
    exact ⟨rfl, rfl⟩
  | false =>
    have C : Hid _ := fun (_ : Unit) => CB.out n (by rw [← hn]; rfl)
    clear h CB hn
    go_enter Tryz.func76, Tryz.ntmps76
    go_wp2_with fail
    refine (C.out ()).mono ?_
    rintro e w1 ⟨rfl, hw1⟩
    subst hw1
    go_wp2
    go_ret
    exact ⟨rfl, rfl⟩

end

end Go.Proofs.YtfmhmokbbkliaaaGreat

/- The contract of tabulariumref04.Append. -/
namespace Go.Proofs.YtfmhmokbbkliaaaGreat
open Go.RowKit

theorem ba_add (a b : List UInt8) : ba a ++ ba b = ba (a ++ b) := by
  apply ByteArray.ext
  simp [ba]

theorem no_beg (room fuse : Int) (S : FS) {E : Int} (hE : E ≠ 0) (f : FS → FS) : begE ⟨room, fuse, false, S⟩ E = E ∧ doD ⟨room, fuse, false, S⟩ E f = ⟨room, fuse, false, S⟩ := by
  constructor
  · unfold begE; simp [hE]
  · unfold doD begE begD; simp [hE]

theorem run_store_str (w : World) (a : Addr) (x : ByteArray) (m : Mode) : (store a (.string x) m).run Tryz.prog w = stored Tryz.prog w a (.string x) m := run_store Tryz.prog w a _ m rfl

section
variable {O : Nat → Prop} {w : World} {p : Nat} {a : Option Addr} {c : Nat} {g : Option Nat} {ds : DS}

set_option maxRecDepth 100000 in
set_option maxHeartbeats 2000000 in
theorem refAppend_val (h : RAt O w p a c g ds) (hf : Fit ds) (n d : List UInt8) (hnm : n.length ≤ maxLen) (hd : d.length ≤ 140737488355328) (q : Int) (hq : begE ds (refA ds n d) = q) {ds' : DS} (hds : doD ds (refA ds n d) (fapp n d) = ds') :
    Calls Tryz.prog 34 #[.pointer (some ⟨p, 0, none⟩), .string (ba n), .string (ba d)] w fun e w' => e = .returned (.int .i64 q) ∧ (∃ a' c' g', RAt (Grow O w w') w' p a' c' g' ds') ∧ Stay O w w' := by
  have CA : Hid _ := fun (_ : Unit) => refAt_val h hf n
  obtain ⟨ok, hok⟩ : ∃ ok, nameOk n = ok := ⟨_, rfl⟩
  have CN : Hid _ := fun w => refName_val n ok w hnm hok
  obtain ⟨room, fuse, down, S⟩ := ds
  have c3 : w.cell? ⟨p, 3, none⟩ = some (.bool down) := h.c3
  cases down with
  | true =>
    have e1 : (12 : Int) = q := by rw [← hq]; unfold begE; simp
    have e2 : (⟨room, fuse, true, S⟩ : DS) = ds' := by rw [← hds]; unfold doD begE begD; simp
    subst e1 e2
    have HF : Hid _ := h.grow w
    clear h hq hds
    go_enter Tryz.func34, Tryz.ntmps34
    go_wp2_with fail
    refine (CA.out ()).mono ?_
    rintro e w1 ⟨Z, rfl, hw1, -⟩
    subst hw1
    go_wp2_with fail
    refine (CN.out _).mono ?_
    rintro e w2 ⟨rfl, hw2⟩
    subst hw2
    clear CA CN
    go_wp2
    go_ret
    exact ⟨rfl, ⟨_, _, _, HF.out⟩, Stay.refl _ _⟩
  | false =>
    have CB : Hid _ := fun v hv => refBlows_val h hf v hv
    have HR : Hid _ := h
    have HF : Hid _ := hf
    have HO : Hid _ := hok
    have HQ : Hid _ := hq
    have HDS : Hid _ := hds
    have hm : S.length ≤ 20 := hf.most
    have hr0 : 0 ≤ room ∧ room < 9223372036854775808 := hf.r0
    obtain ⟨hr1, hr2⟩ := hr0
    obtain ⟨T, hT⟩ : ∃ T, tot S = T := ⟨_, rfl⟩
    have hT8 : T ≤ 8000000 := by rw [← hT]; exact hf.tot8
    have CT : Hid _ := fun k => refBytes_val (h.below (below_drewN (Below.refl _ w) k)) hf T hT
    have c0 : w.cell? ⟨p, 0, none⟩ = some (.int .i64 room) := h.c0
    have c1 : w.cell? ⟨p, 1, none⟩ = some (.slice a S.length c) := h.c1
    obtain ⟨Dl, hDl⟩ : ∃ k, d.length = k := ⟨_, rfl⟩
    have hDz : (ba d).size = Dl := by rw [ba_size]; exact hDl
    rw [hDl] at hd
    clear h hok hq hds hf
    go_enter Tryz.func34, Tryz.ntmps34
    go_wp2_with fail
    refine (CA.out ()).mono ?_
    rintro e w1 ⟨Z, rfl, hw1, hZ⟩
    subst hw1
    go_wp2_with fail
    refine (CN.out _).mono ?_
    rintro e w2 ⟨rfl, hw2⟩
    subst hw2
    clear CA CN
    cases ok with
    | false =>
      have eA : refA ⟨room, fuse, false, S⟩ n d = 1 := by unfold refA; rw [HO.out]; rfl
      have e1 : (1 : Int) = q := by rw [← HQ.out, eA, (no_beg _ _ _ (by decide) id).1]
      have e2 : (⟨room, fuse, false, S⟩ : DS) = ds' := by rw [← HDS.out, eA, (no_beg _ _ _ (by decide) _).2]
      subst e1 e2
      clear HQ HDS eA hZ CB CT
      go_wp2
      go_ret
      exact ⟨rfl, ⟨_, _, _, HR.out.grow _⟩, Stay.refl _ _⟩
    | true =>
      rcases hZ with ⟨rfl, hno⟩ | ⟨i, hi, rfl, hn⟩
      · have hfg : fget S n = none := hno
        have rA : refA ⟨room, fuse, false, S⟩ n d = (if 400000 < Dl then 4 else if 20 ≤ S.length then 4 else if room < ((T + Dl : Nat) : Int) then 8 else 0) := by
          unfold refA; rw [HO.out]; simp [hfg, flen, hDl, hT]
        have HG : Hid _ := hfg
        clear hno hfg
        by_cases h1 : 400000 < Dl
        · have eA := rA.trans (if_pos h1)
          clear rA CT
          have e1 : (4 : Int) = q := by rw [← HQ.out, eA, (no_beg _ _ _ (by decide) id).1]
          have e2 : (⟨room, fuse, false, S⟩ : DS) = ds' := by rw [← HDS.out, eA, (no_beg _ _ _ (by decide) _).2]
          subst e1 e2
          clear HQ HDS eA CB
          go_wp2
          go_ret
          exact ⟨rfl, ⟨_, _, _, HR.out.grow _⟩, Stay.refl _ _⟩
        · have rA2 := rA.trans (if_neg h1)
          clear rA
          by_cases h2 : 20 ≤ S.length
          · have eA := rA2.trans (if_pos h2)
            clear rA2 CT
            have e1 : (4 : Int) = q := by rw [← HQ.out, eA, (no_beg _ _ _ (by decide) id).1]
            have e2 : (⟨room, fuse, false, S⟩ : DS) = ds' := by rw [← HDS.out, eA, (no_beg _ _ _ (by decide) _).2]
            subst e1 e2
            clear HQ HDS eA CB
            go_wp2
            go_ret
            exact ⟨rfl, ⟨_, _, _, HR.out.grow _⟩, Stay.refl _ _⟩
          · have rA3 := rA2.trans (if_neg h2)
            clear rA2
            by_cases h3 : room < ((T + Dl : Nat) : Int)
            · have eA := rA3.trans (if_pos h3)
              clear rA3
              have e1 : (8 : Int) = q := by rw [← HQ.out, eA, (no_beg _ _ _ (by decide) id).1]
              have e2 : (⟨room, fuse, false, S⟩ : DS) = ds' := by rw [← HDS.out, eA, (no_beg _ _ _ (by decide) _).2]
              subst e1 e2
              clear HQ HDS eA CB
              go_wp2
              go_quiet ((go_at_call 82; exact Calls.quiet_of_same (CT.out _)))
              go_wp2
              go_ret
              exact ⟨rfl, ⟨_, _, _, (HR.out.below (below_drewN (Below.refl _ _) _)).grow _⟩, Stay.of_below (below_drewN (Below.refl _ _) _)⟩
            · have eA := rA3.trans (if_neg h3)
              clear rA3
              go_wp2
              go_quiet ((go_at_call 82; exact Calls.quiet_of_same (CT.out _)))
              obtain ⟨W, hW⟩ : ∃ W, w2.drewN nq = W := ⟨_, rfl⟩
              rw [hW]
              have hbW : Below w2.heap.size w2 W := by rw [← hW]; exact below_drewN (Below.refl _ w2) nq
              have hRW := HR.out.below hbW
              have hSW : Stay O w2 W := Stay.of_below hbW
              have CBW : Hid _ := fun v hv => refBlows_val hRW HF.out v hv
              have SW : Hid _ := hSW
              have c3W := hRW.c3
              clear hW hbW hRW hSW CT CB c0 c1 c3
              by_cases hb : begE ⟨room, fuse, false, S⟩ 0 = 12
              · have e1 : (12 : Int) = q := by rw [← HQ.out, eA, hb]
                have e2 : begD ⟨room, fuse, false, S⟩ 0 = ds' := by rw [← HDS.out, eA]; unfold doD; rw [if_neg (by rw [hb]; decide)]
                subst e1
                have HB : Hid _ := hb
                have HE2 : Hid _ := e2
                clear HQ HDS hb e2 eA
                go_wp2_with fail
                refine (CBW.out true (decide_eq_true HB.out)).mono ?_
                rintro e w3 ⟨rfl, h3, hs3⟩
                have H3 : Hid _ := h3
                have S3 : Hid _ := hs3
                clear h3 hs3 CBW
                go_wp2
                go_ret
                exact ⟨rfl, ⟨_, _, _, by rw [← HE2.out]; exact H3.out.grow _⟩, SW.out.then_same S3.out⟩
              · obtain ⟨b0, F, hbD, hfit⟩ := beg_no hb HF.out
                have e1 : (0 : Int) = q := by rw [← HQ.out, eA, b0]
                have e2 : (⟨room, F, false, fins (n, d, 0) S⟩ : DS) = ds' := by
                  rw [← HDS.out, eA]; unfold doD; rw [if_pos b0, hbD]; show _ = DS.mk _ _ _ (fapp n d S); unfold fapp fput; rw [HG.out]; show _ = DS.mk _ _ _ (fins _ (fdel S n)); rw [fdel_of_none HG.out]
                subst e1
                have HB : Hid _ := hb
                have HE2 : Hid _ := e2
                have HFIT : Hid _ := hfit
                have HBD : Hid _ := hbD
                clear HQ HDS hb e2 eA b0 hfit hbD
                go_wp2_with fail
                refine (CBW.out false (decide_eq_false HB.out)).mono ?_
                rintro e w3 ⟨rfl, h3, hs3⟩
                rw [HBD.out] at h3
                have CO : Hid _ := fun (_ : Unit) => refPut_val h3 HFIT.out (n, d, 0) HG.out
                have S3 : Hid _ := hs3
                clear h3 hs3 CBW
                go_wp2_with fail
                refine (CO.out ()).mono ?_
                rintro e w4 ⟨rfl, ⟨a4, c4, g4, h4⟩, hs4⟩
                have H4 : Hid _ := h4
                have S4 : Hid _ := hs4
                clear h4 hs4 CO
                go_wp2
                go_ret
                exact ⟨rfl, ⟨_, _, _, by rw [← HE2.out]; exact H4.out.wider (SW.out.then_same S3.out).size (fun k hk => H4.out.lt k (.inl hk))⟩, (SW.out.then_same S3.out).then_same S4.out⟩
      · have hfg : fget S n = some S[i].2 := fget_at HF.out.rise hi hn
        have hiS : i < S.length := hi
        obtain ⟨k, rfl, rfl, q0, q1, q2⟩ := HR.out.file hi
        have q1' : w2.cell? ⟨k, i * 3 + 1, none⟩ = some (.string (ba S[i].2.1)) := q1
        obtain ⟨L, hL⟩ : ∃ L, S[i].2.1.length = L := ⟨_, rfl⟩
        have hL4 : L ≤ 400000 := by rw [← hL]; exact (HF.out.data _ (List.getElem_mem hi)).1
        have hLz : (ba S[i].2.1).size = L := by rw [ba_size]; exact hL
        have rA : refA ⟨room, fuse, false, S⟩ n d = (if 400000 < L + Dl then 4 else if room < ((T + Dl : Nat) : Int) then 8 else 0) := by
          unfold refA; rw [HO.out]; simp [hfg, flen, hDl, hT, hL]
        have HG : Hid _ := hfg
        clear hfg q0 q1 q2
        by_cases h1 : 400000 < Dl
        · have eA := rA.trans (if_pos (by omega))
          clear rA CT
          have e1 : (4 : Int) = q := by rw [← HQ.out, eA, (no_beg _ _ _ (by decide) id).1]
          have e2 : (⟨room, fuse, false, S⟩ : DS) = ds' := by rw [← HDS.out, eA, (no_beg _ _ _ (by decide) _).2]
          subst e1 e2
          clear HQ HDS eA CB
          go_wp2
          go_ret
          exact ⟨rfl, ⟨_, _, _, HR.out.grow _⟩, Stay.refl _ _⟩
        · by_cases h2 : 400000 < L + Dl
          · have eA := rA.trans (if_pos h2)
            clear rA CT
            have e1 : (4 : Int) = q := by rw [← HQ.out, eA, (no_beg _ _ _ (by decide) id).1]
            have e2 : (⟨room, fuse, false, S⟩ : DS) = ds' := by rw [← HDS.out, eA, (no_beg _ _ _ (by decide) _).2]
            subst e1 e2
            clear HQ HDS eA CB
            go_wp2
            go_ret
            exact ⟨rfl, ⟨_, _, _, HR.out.grow _⟩, Stay.refl _ _⟩
          · have rA3 := rA.trans (if_neg h2)
            clear rA
            by_cases h3 : room < ((T + Dl : Nat) : Int)
            · have eA := rA3.trans (if_pos h3)
              clear rA3
              have e1 : (8 : Int) = q := by rw [← HQ.out, eA, (no_beg _ _ _ (by decide) id).1]
              have e2 : (⟨room, fuse, false, S⟩ : DS) = ds' := by rw [← HDS.out, eA, (no_beg _ _ _ (by decide) _).2]
              subst e1 e2
              clear HQ HDS eA CB
              go_wp2
              go_quiet ((go_at_call 82; exact Calls.quiet_of_same (CT.out _)))
              go_wp2
              go_ret
              exact ⟨rfl, ⟨_, _, _, (HR.out.below (below_drewN (Below.refl _ _) _)).grow _⟩, Stay.of_below (below_drewN (Below.refl _ _) _)⟩
            · have eA := rA3.trans (if_neg h3)
              clear rA3
              go_wp2
              go_quiet ((go_at_call 82; exact Calls.quiet_of_same (CT.out _)))
              obtain ⟨W, hW⟩ : ∃ W, w2.drewN nq = W := ⟨_, rfl⟩
              rw [hW]
              have hbW : Below w2.heap.size w2 W := by rw [← hW]; exact below_drewN (Below.refl _ w2) nq
              have hRW := HR.out.below hbW
              have hSW : Stay O w2 W := Stay.of_below hbW
              have CBW : Hid _ := fun v hv => refBlows_val hRW HF.out v hv
              have SW : Hid _ := hSW
              have c3W := hRW.c3
              clear hW hbW hRW hSW CT CB c0 c1 c3
              by_cases hb : begE ⟨room, fuse, false, S⟩ 0 = 12
              · have e1 : (12 : Int) = q := by rw [← HQ.out, eA, hb]
                have e2 : begD ⟨room, fuse, false, S⟩ 0 = ds' := by rw [← HDS.out, eA]; unfold doD; rw [if_neg (by rw [hb]; decide)]
                subst e1
                have HB : Hid _ := hb
                have HE2 : Hid _ := e2
                clear HQ HDS hb e2 eA
                go_wp2_with fail
                refine (CBW.out true (decide_eq_true HB.out)).mono ?_
                rintro e w3 ⟨rfl, h3, hs3⟩
                have H3 : Hid _ := h3
                have S3 : Hid _ := hs3
                clear h3 hs3 CBW
                go_wp2
                go_ret
                exact ⟨rfl, ⟨_, _, _, by rw [← HE2.out]; exact H3.out.grow _⟩, SW.out.then_same S3.out⟩
              · obtain ⟨b0, F, hbD, hfit⟩ := beg_no hb HF.out
                have e1 : (0 : Int) = q := by rw [← HQ.out, eA, b0]
                have e2 : (⟨room, F, false, S.set i (n, S[i].2.1 ++ d, S[i].2.2)⟩ : DS) = ds' := by
                  rw [← HDS.out, eA]; unfold doD; rw [if_pos b0, hbD]; show _ = DS.mk _ _ _ (fapp n d S); unfold fapp; rw [HG.out]; show _ = DS.mk _ _ _ (fput S n _); rw [fput_at HF.out.rise hi hn]
                subst e1
                have HB : Hid _ := hb
                have HE2 : Hid _ := e2
                have HFIT : Hid _ := hfit
                have HBD : Hid _ := hbD
                clear HQ HDS hb e2 eA b0 hfit hbD
                go_wp2_with fail
                refine (CBW.out false (decide_eq_false HB.out)).mono ?_
                rintro e w3 ⟨rfl, h3, hs3⟩
                rw [HBD.out] at h3
                obtain ⟨k2, hk2a, hk2b, r0, r1, r2⟩ := h3.file hi
                cases hk2a
                have hsf := h3.setFile i 1 hi (by omega) (n, S[i].2.1 ++ d, S[i].2.2) (.string (ba (S[i].2.1 ++ d))) (by rw [filCs_set _ _ _ hi]; rw [show n = S[i].1 from hn.symm]; exact data_cells S i hi _)
                have d1 : w3.cell? ⟨p, 1, none⟩ = some (.slice (some ⟨k, 0, none⟩) S.length c) := h3.c1
                have lv := h3.live (i * 3 + 1) (by show _ < S.length * 3; omega)
                have r1' : w3.cell? ⟨k, i * 3 + 1, none⟩ = some (.string (ba S[i].2.1)) := r1
                have HS : Hid _ := hsf
                have S3 : Hid _ := hs3
                have hX : ∀ w : World, (Op.stringOp .add (ba S[i].2.1) (ba d)).run Tryz.prog w = .ok (.string (ba (S[i].2.1 ++ d))) w := fun w => by
                  rw [← ba_add]; exact run_string_add_sum (P := Tryz.prog) w _ _ (by rw [ba_size, ba_size]; omega)
                clear hsf h3 hs3 CBW r0 r1 r2 hk2b
                have hst := run_store_str
                generalize ba (S[i].2.1 ++ d) = X2 at *
                generalize ba S[i].2.1 = X1 at *
                generalize ba d = X3 at *
                go_wp2
                go_region
                go_wp2
                go_ret
                exact ⟨rfl, ⟨_, _, _, by rw [← HE2.out]; exact (HS.out.1.below ((Below.refl _ _).drew)).grow _⟩, ((SW.out.then_same S3.out).then_same HS.out.2).drew⟩

end

end Go.Proofs.YtfmhmokbbkliaaaGreat

/- The contract of tabulariumref04.Rename. -/
namespace Go.Proofs.YtfmhmokbbkliaaaGreat
open Go.RowKit

theorem Fit.del {room fuse : Int} {down : Bool} {S : FS} (h : Fit ⟨room, fuse, down, S⟩) (n : List UInt8) : Fit ⟨room, fuse, down, fdel S n⟩ :=
  ⟨rise_fdel h.rise n, fun p hp => h.name p (mem_fdel.1 hp).1, fun p hp => h.data p (mem_fdel.1 hp).1, Nat.le_trans (List.length_filter_le _ _) h.most, h.r0, h.fu⟩

theorem fdel_twice (S : FS) (n : List UInt8) : fdel (fdel S n) n = fdel S n := fdel_of_none (fget_fdel_same S n)

theorem fren_same {S : FS} (hS : Rise S) {i : Nat} (hi : i < S.length) {n : List UInt8} (hn : S[i].1 = n) : fren n n S = S := by
  unfold fren
  rw [fget_at hS hi hn]
  show fput (fdel S n) n S[i].2 = S
  have e : fput (fdel S n) n S[i].2 = fput S n S[i].2 := by unfold fput; rw [fdel_twice]
  rw [e, fput_at hS hi hn]
  have : (n, S[i].2) = S[i] := by rw [← hn]
  rw [this]
  exact List.set_getElem_self hi

section
variable {O : Nat → Prop} {w : World} {p : Nat} {a : Option Addr} {c : Nat} {g : Option Nat} {ds : DS}

theorem ren_end {w2 w5 W : World} {pf : Nat} (hlt : ∀ k, O k → k < w2.heap.size) (hpf : w2.heap.size ≤ pf) (S4 : Stay O w2 w5) (hW : Stay (fun x => x = pf) w5 W) (hWs : W.heap.size = w5.heap.size)
    (h7 : RAt (Grow (fun x => Grow O w2 w5 x ∧ x ≠ pf) W w) w p a c g ds) (S7 : Stay (fun x => Grow O w2 w5 x ∧ x ≠ pf) W w) : RAt (Grow O w2 w) w p a c g ds ∧ Stay O w2 w := by
  have hs := S7.size
  have hs4 := S4.size
  refine ⟨h7.wide (fun x hx => ?_) (fun x hx => ?_), (S4.trans hW (fun i hi e => ?_)).trans S7 (fun i hi e => ?_)⟩
  · rcases hx with ⟨hx | hx, _⟩ | hx
    · exact .inl hx
    · exact .inr ⟨hx.1, by omega⟩
    · exact .inr ⟨by omega, hx.2⟩
  · rcases hx with hx | hx
    · have := hlt x hx; omega
    · exact hx.2
  · omega
  · rcases e.1 with e | e
    · exact e
    · omega

theorem ren_step {w2 w5 w6 : World} {pf : Nat} (hlt : ∀ k, O k → k < w2.heap.size) (hpf : w2.heap.size ≤ pf) (hp5 : pf < w5.heap.size) (S4 : Stay O w2 w5)
    (h6 : RAt (Grow (fun x => Grow O w2 w5 x ∧ x ≠ pf) w5 w6) w6 p a c g ds) (S6 : Stay (fun x => Grow O w2 w5 x ∧ x ≠ pf) w5 w6) : RAt (fun x => Grow O w2 w6 x ∧ x ≠ pf) w6 p a c g ds ∧ Stay O w2 w6 := by
  have hs := S6.size
  have hs4 := S4.size
  refine ⟨h6.wide (fun x hx => ?_) (fun x hx => ?_), S4.trans S6 (fun i hi e => ?_)⟩
  · rcases hx with ⟨hx | hx, hn⟩ | hx
    · exact ⟨.inl hx, hn⟩
    · exact ⟨.inr ⟨hx.1, by omega⟩, hn⟩
    · exact ⟨.inr ⟨by omega, hx.2⟩, by omega⟩
  · rcases hx.1 with hx | hx
    · have := hlt x hx; omega
    · exact hx.2
  · rcases e.1 with e | e
    · exact e
    · omega

set_option maxRecDepth 100000 in
set_option maxHeartbeats 2000000 in
theorem refRename_val (h : RAt O w p a c g ds) (hf : Fit ds) (n m : List UInt8) (hmm : m.length ≤ maxLen) (q : Int) (hq : begE ds (refR ds.S n m) = q) {ds' : DS} (hds : doD ds (refR ds.S n m) (fren n m) = ds') :
    Calls Tryz.prog 141 #[.pointer (some ⟨p, 0, none⟩), .string (ba n), .string (ba m)] w fun e w' => e = .returned (.int .i64 q) ∧ (∃ a' c' g', RAt (Grow O w w') w' p a' c' g' ds') ∧ Stay O w w' := by
  have CA : Hid _ := fun (_ : Unit) => refAt_val h hf n
  obtain ⟨ok, hok⟩ : ∃ ok, nameOk m = ok := ⟨_, rfl⟩
  have CN : Hid _ := fun w => refName_val m ok w hmm hok
  obtain ⟨room, fuse, down, S⟩ := ds
  have c3 : w.cell? ⟨p, 3, none⟩ = some (.bool down) := h.c3
  cases down with
  | true =>
    have e1 : (12 : Int) = q := by rw [← hq]; unfold begE; simp
    have e2 : (⟨room, fuse, true, S⟩ : DS) = ds' := by rw [← hds]; unfold doD begE begD; simp
    subst e1 e2
    have HF : Hid _ := h.grow w
    clear h hq hds
    go_enter Tryz.func141, Tryz.ntmps141
    go_wp2_with fail
    refine (CA.out ()).mono ?_
    rintro e w1 ⟨Z, rfl, hw1, -⟩
    subst hw1
    go_wp2_with fail
    refine (CN.out _).mono ?_
    rintro e w2 ⟨rfl, hw2⟩
    subst hw2
    clear CA CN
    go_wp2
    go_ret
    exact ⟨rfl, ⟨_, _, _, HF.out⟩, Stay.refl _ _⟩
  | false =>
    have CB : Hid _ := fun v hv => refBlows_val h hf v hv
    have HR : Hid _ := h
    have HF : Hid _ := hf
    have HO : Hid _ := hok
    have hrr : refR S n m = if ok then refM S n else 1 := by unfold refR; rw [hok]
    have HQ : Hid (begE ⟨room, fuse, false, S⟩ (refR S n m) = q) := hq
    have HDS : Hid (doD ⟨room, fuse, false, S⟩ (refR S n m) (fren n m) = ds') := hds
    have hm : S.length ≤ 20 := hf.most
    clear h hok hq hds hf
    go_enter Tryz.func141, Tryz.ntmps141
    go_wp2_with fail
    refine (CA.out ()).mono ?_
    rintro e w1 ⟨Z, rfl, hw1, hZ⟩
    subst hw1
    go_wp2_with fail
    refine (CN.out _).mono ?_
    rintro e w2 ⟨rfl, hw2⟩
    subst hw2
    clear CA CN
    cases ok with
    | false =>
      have eA : refR S n m = 1 := hrr
      have e1 : (1 : Int) = q := by rw [← HQ.out, eA, (no_beg _ _ _ (by decide) id).1]
      have e2 : (⟨room, fuse, false, S⟩ : DS) = ds' := by rw [← HDS.out, eA, (no_beg _ _ _ (by decide) _).2]
      subst e1 e2
      clear HQ HDS eA hrr hZ CB
      go_wp2
      go_ret
      exact ⟨rfl, ⟨_, _, _, HR.out.grow _⟩, Stay.refl _ _⟩
    | true =>
      rcases hZ with ⟨rfl, hno⟩ | ⟨i, hi, rfl, hn⟩
      · have eA : refR S n m = 5 := by rw [hrr]; show refM S n = 5; unfold refM; rw [show fget S n = none from hno]; rfl
        have e1 : (5 : Int) = q := by rw [← HQ.out, eA, (no_beg _ _ _ (by decide) id).1]
        have e2 : (⟨room, fuse, false, S⟩ : DS) = ds' := by rw [← HDS.out, eA, (no_beg _ _ _ (by decide) _).2]
        subst e1 e2
        clear HQ HDS eA hrr hno CB
        go_wp2
        go_ret
        exact ⟨rfl, ⟨_, _, _, HR.out.grow _⟩, Stay.refl _ _⟩
      · have hfg : fget S n = some S[i].2 := fget_at HF.out.rise hi hn
        have eA : refR S n m = 0 := by rw [hrr]; show refM S n = 0; unfold refM; rw [hfg]; rfl
        have hiS : i < S.length := hi
        have HG : Hid _ := hfg
        clear hfg hrr
        by_cases hb : begE ⟨room, fuse, false, S⟩ 0 = 12
        · have e1 : (12 : Int) = q := by rw [← HQ.out, eA, hb]
          have e2 : begD ⟨room, fuse, false, S⟩ 0 = ds' := by rw [← HDS.out, eA]; unfold doD; rw [if_neg (by rw [hb]; decide)]
          subst e1
          have HB : Hid _ := hb
          have HE2 : Hid _ := e2
          clear HQ HDS hb e2 eA
          go_wp2_with fail
          refine (CB.out true (decide_eq_true HB.out)).mono ?_
          rintro e w3 ⟨rfl, h3, hs3⟩
          have H3 : Hid _ := h3
          have S3 : Hid _ := hs3
          clear h3 hs3 CB
          go_wp2
          go_ret
          exact ⟨rfl, ⟨_, _, _, by rw [← HE2.out]; exact H3.out.grow _⟩, S3.out⟩
        · obtain ⟨b0, F, hbD, hfit⟩ := beg_no hb HF.out
          have e1 : (0 : Int) = q := by rw [← HQ.out, eA, b0]
          have e2 : (⟨room, F, false, fren n m S⟩ : DS) = ds' := by
            rw [← HDS.out, eA]; unfold doD; rw [if_pos b0, hbD]
          subst e1
          have HB : Hid _ := hb
          have HE2 : Hid _ := e2
          have HFIT : Hid _ := hfit
          have HBD : Hid _ := hbD
          clear HQ HDS hb e2 eA b0 hfit hbD
          go_wp2_with fail
          refine (CB.out false (decide_eq_false HB.out)).mono ?_
          rintro e w3 ⟨rfl, h3, hs3⟩
          rw [HBD.out] at h3
          have S3 : Hid _ := hs3
          have H3 : Hid _ := h3
          clear h3 hs3 CB
          by_cases hnm : n = m
          · have hbq : ((ba n).toList == (ba m).toList) = true := by rw [ba_beq]; exact decide_eq_true hnm
            have hE3 : (⟨room, F, false, S⟩ : DS) = ds' := by rw [← HE2.out, ← hnm, fren_same HF.out.rise hi hn]
            have HE3 : Hid _ := hE3
            clear hnm hE3
            generalize ba n = s1 at *
            generalize ba m = s2 at *
            go_wp2
            go_ret
            exact ⟨rfl, ⟨_, _, _, by rw [← HE3.out]; exact H3.out.grow _⟩, S3.out⟩
          · have hbq : ((ba n).toList == (ba m).toList) = false := by rw [ba_beq]; exact decide_eq_false hnm
            obtain ⟨k, ha, hg2, r0, r1, r2⟩ := H3.out.file hi
            cases ha
            have r0' : w3.cell? ⟨k, i * 3, none⟩ = some (.string (ba S[i].1)) := r0
            have r1' : w3.cell? ⟨k, i * 3 + 1, none⟩ = some (.string (ba S[i].2.1)) := r1
            have r2' : w3.cell? ⟨k, i * 3 + 2, none⟩ = some (.int .i64 (S[i].2.2 : Int)) := r2
            have d1 : w3.cell? ⟨p, 1, none⟩ = some (.slice (some ⟨k, 0, none⟩) S.length c) := H3.out.c1
            clear r0 r1 r2 hg2
            generalize hs1 : ba n = s1 at *
            generalize hs2 : ba m = s2 at *
            go_wp2_with fail
            obtain ⟨wa, hwa⟩ : ∃ wa, w3.alloc (.cells #[.string s1, .string (ba S[i].2.1), .int .i64 (S[i].2.2 : Int)] 118) = wa := ⟨_, rfl⟩
            have m0 : wa.cell? ⟨w3.heap.size, 0, none⟩ = some (.string s1) := hwa ▸ World.cell?_alloc_new w3 _ _ 0
            have m1 : wa.cell? ⟨w3.heap.size, 1, none⟩ = some (.string (ba S[i].2.1)) := hwa ▸ World.cell?_alloc_new w3 _ _ 1
            have m2 : wa.cell? ⟨w3.heap.size, 2, none⟩ = some (.int .i64 (S[i].2.2 : Int)) := hwa ▸ World.cell?_alloc_new w3 _ _ 2
            have l0 : wa.frozen? ⟨w3.heap.size, 0, none⟩ = false := hwa ▸ World.frozen?_alloc_new w3 _ _ 0
            have hba : Below w3.heap.size w3 wa := hwa ▸ (Below.refl _ w3).alloc (Nat.le_refl _) _
            have hza : w3.heap.size < wa.heap.size := by rw [← hwa]; simp
            rw [hwa]
            have hRa := H3.out.below hba
            have hno3 : ¬ O w3.heap.size := fun e => by have := H3.out.lt _ e; omega
            generalize hpf : w3.heap.size = pf at *
            have HBA : Hid (Stay O w2 wa) := S3.out.then_below (by rw [hpf]; exact hba)
            clear hwa hba r0' r1' r2' d1
            refine (refOut_val hRa HFIT.out i hi).mono ?_
            rintro e w4 ⟨rfl, ⟨a4, c4, g4, h4⟩, hs4⟩
            have eS1 : S.take i ++ S.drop (i + 1) = fdel S n := (fdel_at HF.out.rise hi hn).symm
            have h4' : RAt (Grow O wa w4) w4 p a4 c4 g4 ⟨room, F, false, fdel S n⟩ := by rw [← eS1]; exact h4
            have hb4 := hs4.block pf hza hno3
            have m04 := (World.cell?_of_block (a := ⟨pf, 0, none⟩) hb4).trans m0
            have m14 := (World.cell?_of_block (a := ⟨pf, 1, none⟩) hb4).trans m1
            have m24 := (World.cell?_of_block (a := ⟨pf, 2, none⟩) hb4).trans m2
            have l04 := (World.frozen?_of_block (a := ⟨pf, 0, none⟩) hb4).trans l0
            have hz4 := Nat.lt_of_lt_of_le hza hs4.size
            have hno4 : ¬ Grow O wa w4 pf := fun e => e.elim hno3 (fun e => by omega)
            have HPF : Hid (w2.heap.size ≤ pf) := by rw [← hpf]; exact S3.out.size
            have S4 : Hid (Stay O w2 w4) := HBA.out.then_same hs4
            have hgr : ∀ x, Grow O wa w4 x → Grow O w2 w4 x := fun x hx => hx.elim .inl (fun e => .inr ⟨Nat.le_trans HBA.out.size e.1, e.2⟩)
            have h4w := h4'.wide (O2 := fun x => Grow O w2 w4 x ∧ x ≠ pf) (fun x hx => ⟨hgr x hx, fun e => hno4 (e ▸ hx)⟩) (fun x hx => hx.1.elim (fun e => h4'.lt x (.inl e)) (fun e => e.2))
            have H4 : Hid _ := h4w
            clear h4 h4' h4w hs4 m0 m1 m2 l0 hRa hb4 hno4 hgr eS1
            subst hs2
            have CA4 : Hid _ := fun (_ : Unit) => refAt_val H4.out (HFIT.out.del n) m
            go_wp2_with fail
            refine (CA4.out ()).mono ?_
            rintro e w5 ⟨Z5, rfl, hw5, hZ5⟩
            subst hw5
            clear CA4
            rcases hZ5 with ⟨rfl, hno5⟩ | ⟨i5, hi5, rfl, hn5⟩
            · have hno5' : fget (fdel S n) m = none := hno5
              have eF : fren n m S = fins (m, S[i].2.1, S[i].2.2) (fdel S n) := by unfold fren; rw [HG.out]; show fins (m, S[i].2) (fdel (fdel S n) m) = _; rw [fdel_of_none hno5']
              have HEF : Hid _ := eF
              have HN5 : Hid _ := hno5'
              clear hno5 eF
              have hno' : fget (fdel S n) (m, S[i].2.1, S[i].2.2).1 = none := HN5.out
              have hstW : Stay (fun x => x = pf) w5 (w5.setCell ⟨pf, 0, none⟩ (.string (ba m))) := Stay.setCell w5 ⟨pf, 0, none⟩ _ rfl
              have hRW := (H4.out).stay hstW (fun x hx e => hx.2 e)
              have CP : Hid _ := fun (_ : Unit) => refPut_val hRW (HFIT.out.del n) (m, S[i].2.1, S[i].2.2) hno'
              have n0 : (w5.setCell ⟨pf, 0, none⟩ (.string (ba m))).cell? ⟨pf, 0, none⟩ = some (.string (ba m)) := World.cell?_setCell_same _ _ _ m04
              have n1 : (w5.setCell ⟨pf, 0, none⟩ (.string (ba m))).cell? ⟨pf, 1, none⟩ = some (.string (ba S[i].2.1)) := cell_setP (by decide) m14
              have n2 : (w5.setCell ⟨pf, 0, none⟩ (.string (ba m))).cell? ⟨pf, 2, none⟩ = some (.int .i64 (S[i].2.2 : Int)) := cell_setP (by decide) m24
              have hst := run_store_str
              have HW : Hid _ := hstW
              clear hRW hno' hstW
              go_wp2_with fail
              refine (CP.out ()).mono ?_
              rintro e w7 ⟨rfl, ⟨a7, c7, g7, h7⟩, hs7⟩
              have HE : Hid _ := ren_end HR.out.lt HPF.out (S4.out) HW.out (by simp [World.setCell]) h7 hs7
              clear h7 hs7 CP n0 n1 n2
              go_wp2
              go_ret
              exact ⟨rfl, ⟨_, _, _, by rw [← HE2.out, HEF.out]; exact HE.out.1⟩, HE.out.2⟩
            · have eF : fren n m S = fins (m, S[i].2.1, S[i].2.2) (fdel (fdel S n) m) := by unfold fren; rw [HG.out]; rfl
              have HEF : Hid _ := eF
              clear eF
              have CO5 : Hid _ := fun (_ : Unit) => refOut_val H4.out (HFIT.out.del n) i5 hi5
              go_wp2_with fail
              refine (CO5.out ()).mono ?_
              rintro e w6 ⟨rfl, ⟨a6, c6, g6, h6⟩, hs6⟩
              have eS2 : (fdel S n).take i5 ++ (fdel S n).drop (i5 + 1) = fdel (fdel S n) m := (fdel_at (rise_fdel HF.out.rise n) hi5 hn5).symm
              have h6' : RAt (Grow (fun x => Grow O w2 w5 x ∧ x ≠ pf) w5 w6) w6 p a6 c6 g6 ⟨room, F, false, fdel (fdel S n) m⟩ := by rw [← eS2]; exact h6
              have hst6 := ren_step HR.out.lt HPF.out hz4 S4.out h6' hs6
              have hb6 := hs6.block pf hz4 (fun e => e.2 rfl)
              have m06 := (World.cell?_of_block (a := ⟨pf, 0, none⟩) hb6).trans m04
              have m16 := (World.cell?_of_block (a := ⟨pf, 1, none⟩) hb6).trans m14
              have m26 := (World.cell?_of_block (a := ⟨pf, 2, none⟩) hb6).trans m24
              have l06 := (World.frozen?_of_block (a := ⟨pf, 0, none⟩) hb6).trans l04
              have HS6 : Hid _ := hst6
              clear h6 h6' hs6 hst6 hb6 CO5 eS2 m04 m14 m24 l04
              have hno' : fget (fdel (fdel S n) m) (m, S[i].2.1, S[i].2.2).1 = none := fget_fdel_same _ _
              have hstW : Stay (fun x => x = pf) w6 (w6.setCell ⟨pf, 0, none⟩ (.string (ba m))) := Stay.setCell w6 ⟨pf, 0, none⟩ _ rfl
              have hRW := (HS6.out.1).stay hstW (fun x hx e => hx.2 e)
              have CP : Hid _ := fun (_ : Unit) => refPut_val hRW ((HFIT.out.del n).del m) (m, S[i].2.1, S[i].2.2) hno'
              have n0 : (w6.setCell ⟨pf, 0, none⟩ (.string (ba m))).cell? ⟨pf, 0, none⟩ = some (.string (ba m)) := World.cell?_setCell_same _ _ _ m06
              have n1 : (w6.setCell ⟨pf, 0, none⟩ (.string (ba m))).cell? ⟨pf, 1, none⟩ = some (.string (ba S[i].2.1)) := cell_setP (by decide) m16
              have n2 : (w6.setCell ⟨pf, 0, none⟩ (.string (ba m))).cell? ⟨pf, 2, none⟩ = some (.int .i64 (S[i].2.2 : Int)) := cell_setP (by decide) m26
              have hst := run_store_str
              have HW : Hid _ := hstW
              clear hRW hno' hstW
              go_wp2_with fail
              refine (CP.out ()).mono ?_
              rintro e w7 ⟨rfl, ⟨a7, c7, g7, h7⟩, hs7⟩
              have HE : Hid _ := ren_end HR.out.lt HPF.out (HS6.out.2) HW.out (by simp [World.setCell]) h7 hs7
              clear h7 hs7 CP n0 n1 n2
              go_wp2
              go_ret
              exact ⟨rfl, ⟨_, _, _, by rw [← HE2.out, HEF.out]; exact HE.out.1⟩, HE.out.2⟩

end

end Go.Proofs.YtfmhmokbbkliaaaGreat

/- The contracts of tabulariumref04.List and tabulariumlaw04.texts. -/
namespace Go.Proofs.YtfmhmokbbkliaaaGreat
open Go.RowKit

theorem strRow : ∃ i, Tryz.prog.info? 9 = some i ∧ i.zero = some (.string ⟨#[]⟩) ∧ i.size = 1 ∧ i.bytes = 16 :=
  info_parts (show (Tryz.prog.info? 9).map (fun i => (i.zero, i.size, i.bytes)) = some (some (.string ⟨#[]⟩), 1, 16) by kernel_rfl)

def namCs (S : FS) : List Value := S.map (fun p => .string (ba p.1))
theorem namCs_len (S : FS) : (namCs S).length = S.length := by simp [namCs]

theorem src_oneS (w : World) (s : ByteArray) : Src Tryz.prog 1 76 (.slice (some ⟨w.heap.size, 0, none⟩) 1 1) 1 [.string s] (w.alloc (.cells #[.string s] 9)) :=
  Src.ofSlice _ Tryz.underlying76 ⟨w.heap.size, 0, none⟩ 1 1 [.string s] rfl (fun j u hu => by
    obtain ⟨hj1, hj2⟩ := List.getElem?_eq_some_iff.1 hu
    have : j = 0 := by simpa using hj1
    subst this
    rw [Addr.add_lit, Nat.zero_add, ← hj2]
    exact World.cell?_alloc_new w _ _ 0) (fun u hu => by rw [List.mem_singleton.1 hu]; rfl)

section
variable {O : Nat → Prop} {w : World} {p : Nat} {a : Option Addr} {c : Nat} {g : Option Nat} {ds : DS}

set_option maxRecDepth 100000 in
set_option maxHeartbeats 1000000 in
theorem refList_val {room fuse : Int} {S : FS} {down : Bool} (h : RAt O w p a c g ⟨room, fuse, down, S⟩) (hf : Fit ⟨room, fuse, down, S⟩) (L : Nat) (hL : (if down then [] else S).length = L) :
    Calls Tryz.prog 74 #[.pointer (some ⟨p, 0, none⟩)] w fun e w' => ∃ oa oc og, e = .returned (.slice oa L oc) ∧ Cel (fun k => w.heap.size ≤ k) w' 1 (.slice oa L oc) L (namCs (if down then [] else S)) og ∧ Below w.heap.size w w' := by
  obtain ⟨ti, hi1, hi2, hi3, hi4⟩ := strRow
  have hm : S.length ≤ 20 := hf.most
  have c1 : w.cell? ⟨p, 1, none⟩ = some (.slice a S.length c) := h.c1
  have c3 : w.cell? ⟨p, 3, none⟩ = some (.bool down) := h.c3
  cases down with
  | true =>
    have e0 : 0 = L := hL
    subst e0
    clear h hf hL
    have hz : S.length = 0 ∨ 0 < S.length := by omega
    rcases hz with hz | hz
    · rw [hz] at c1
      go_enter Tryz.func74, Tryz.ntmps74
      go_wp2
      go_loopw [3, 4] (fun vo vi wr => vo = .slice none 0 0 ∧ vi = .int .i64 0 ∧ wr = w) (fun _ vi _ => 1)
      case atStart => exact ⟨rfl, rfl, rfl⟩
      case round =>
        obtain ⟨rfl, rfl, hw⟩ := hrel
        subst hw
        go_wp2
        go_ret
        exact ⟨none, 0, rfl, ⟨none, .nil rfl rfl rfl⟩, Below.refl _ _⟩
    · go_enter Tryz.func74, Tryz.ntmps74
      go_wp2
      go_loopw [3, 4] (fun vo vi wr => vo = .slice none 0 0 ∧ vi = .int .i64 0 ∧ wr = w) (fun _ vi _ => 1)
      case atStart => exact ⟨rfl, rfl, rfl⟩
      case round =>
        obtain ⟨rfl, rfl, hw⟩ := hrel
        subst hw
        have hz2 : decide ((0 : Int) < (S.length : Int)) = true := decide_eq_true (by omega)
        go_wp2
        go_ret
        exact ⟨none, 0, rfl, ⟨none, .nil rfl rfl rfl⟩, Below.refl _ _⟩
  | false =>
    have e0 : S.length = L := hL
    subst e0
    show Calls Tryz.prog 74 #[.pointer (some ⟨p, 0, none⟩)] w fun e w' => ∃ oa oc og, e = .returned (.slice oa S.length oc) ∧ Cel (fun k => w.heap.size ≤ k) w' 1 (.slice oa S.length oc) S.length (namCs S) og ∧ Below w.heap.size w w'
    have HR : Hid _ := h
    obtain ⟨N, hN⟩ : ∃ N, S.length = N := ⟨_, rfl⟩
    have HN : Hid _ := hN
    rw [hN] at hm ⊢
    clear h hf hL hN c1 c3
    go_enter Tryz.func74, Tryz.ntmps74
    go_wp2
    go_loopw [3, 4] (fun vo vi wr => ∃ (i : Nat) (oa : Option Addr) (oc : Nat) (og : Option Nat), i ≤ N ∧ vi = .int .i64 i ∧ vo = .slice oa i oc ∧ Cel (fun k => w.heap.size ≤ k) wr 1 (.slice oa i oc) i (namCs (S.take i)) og ∧ Below w.heap.size w wr) (fun _ vi _ => N - (intOf vi).toNat)
    case atStart => exact ⟨0, none, 0, none, by omega, rfl, rfl, .nil rfl rfl (by simp [namCs]), Below.refl _ _⟩
    case round =>
      obtain ⟨i, oa, oc, og, hin, rfl, rfl, hC, hB⟩ := hrel
      have hRr := HR.out.below hB
      have c1 : wr.cell? ⟨p, 1, none⟩ = some (.slice a N c) := by rw [← HN.out]; exact hRr.c1
      have c3 : wr.cell? ⟨p, 3, none⟩ = some (.bool false) := hRr.c3
      have hwr := hB.size
      by_cases hlt : i < N
      · have hiS : i < S.length := by rw [HN.out]; exact hlt
        obtain ⟨k, ha, hg2, r0, r1, r2⟩ := hRr.file hiS
        subst ha hg2
        have r0' : wr.cell? ⟨k, i * 3, none⟩ = some (.string (ba S[i].1)) := r0
        obtain ⟨s1, hs1⟩ : ∃ s1, ba S[i].1 = s1 := ⟨_, rfl⟩
        have hnc : namCs (S.take (i + 1)) = namCs (S.take i) ++ [.string s1] := by
          rw [List.take_succ_eq_append_getElem hiS, ← hs1]; exact List.map_append
        rw [hs1] at r0'
        have HC : Hid (Cel (fun k => w.heap.size ≤ k) wr 1 (.slice oa i oc) i (namCs (S.take i)) og) := hC
        have HB : Hid _ := hB
        have HNC : Hid _ := hnc
        clear r0 r1 r2 hRr hC hB hnc
        go_wp2_with (at_builtin; refine wpList_append_cel _ rfl _ _ 76 76 rfl 9 ti (.string ⟨#[]⟩) 1 16 Tryz.underlying76 hi1 hi2 hi3 hi4 rfl (O := fun k => w.heap.size ≤ k) _ i _ og rfl (HC.out.below ((Below.refl _ _).alloc (Nat.le_refl _) _)) _ 1 [.string s1] rfl (src_oneS wr s1) (by unfold maxLen; omega) (by omega) ?_; intro a2 cc2 w2 g2 hC2 hst2 hf2)
        have hC2' := Cel.lowG (by simp; omega) hC2
        have hb2 := hst2.below (B := w.heap.size) (by simp; omega) (fun k hk => by have := HC.out; rw [hk] at this; exact this.lt.2)
        rw [← HNC.out] at hC2'
        have H2 : Hid (Cel (fun k => w.heap.size ≤ k) w2 1 (.slice a2 (i + 1) cc2) (i + 1) (namCs (S.take (i + 1))) g2) := hC2'
        have HB2 : Hid (Below w.heap.size w w2) := (HB.out.trans ((Below.refl _ wr).alloc hwr (.cells #[.string s1] 9))).trans hb2
        clear hC2 hC2' hb2 hst2 hf2
        go_roundw
        case rel => exact ⟨i + 1, a2, cc2, g2, by omega, by go_num, by first | rfl | (congr 1 <;> omega), H2.out, HB2.out⟩
        case measure => simp [intOf]; omega
      · obtain rfl : i = N := by omega
        have HC : Hid (Cel (fun k => w.heap.size ≤ k) wr 1 (.slice oa i oc) i (namCs S) og) := by rwa [List.take_of_length_le (by rw [HN.out]; omega)] at hC
        have hgd : decide ((i : Int) < (i : Int)) = false := decide_eq_false (by omega)
        clear hC hRr hlt
        go_wp2
        go_ret
        exact ⟨oa, oc, og, rfl, HC.out, hB⟩

end

end Go.Proofs.YtfmhmokbbkliaaaGreat

/- The contract of tabulariumref04.Crash. -/
namespace Go.Proofs.YtfmhmokbbkliaaaGreat
open Go.RowKit

theorem ba_cut (l : List UInt8) (k : Nat) : (ba l).extract 0 k = ba (l.take k) := by
  apply ByteArray.ext
  simp [ba]

theorem crashL_take (ks : List Int) (S : FS) (i : Nat) (h : i < S.length) : crashL ks (S.take (i + 1)) = crashL ks (S.take i) ++ (if cutN S[i].2 (ks.getD i 0) = 0 then [] else [(S[i].1, S[i].2.1.take (cutN S[i].2 (ks.getD i 0)), cutN S[i].2 (ks.getD i 0))]) := by
  rw [List.take_succ_eq_append_getElem h, crashL_snoc]
  have : (S.take i).length = i := by rw [List.length_take]; omega
  rw [this]

theorem crashL_len : ∀ (S : FS) (ks : List Int), (crashL ks S).length ≤ S.length
  | [], ks => by rw [crashL_nil]; exact Nat.le_refl _
  | p :: S, ks => by
    have := crashL_len S ks.tail
    show ((if cutN p.2 (ks.headD 0) = 0 then [] else [_]) ++ crashL ks.tail S).length ≤ S.length + 1
    rw [List.length_append]
    split
    · simp; omega
    · simp; omega

theorem src_oneB (w : World) (b : Nat) (x : Fl) (hb : b = w.heap.size) : Src Tryz.prog 3 95 (.slice (some ⟨b, 0, none⟩) 1 1) 1 (filC x) (w.alloc (.cells #[.string (ba x.1), .string (ba x.2.1), .int .i64 (x.2.2 : Int)] 118)) := by
  subst hb; exact src_oneF w x

section
variable {O : Nat → Prop} {w : World} {p : Nat} {a : Option Addr} {c : Nat} {g : Option Nat} {ds : DS}

theorem RAt.crashed {room fuse : Int} {down : Bool} {S S' : FS} (h : RAt O w p a c g ⟨room, fuse, down, S⟩) {w1 : World} {la : Option Addr} {lc L : Nat} {lg : Option Nat} (hb : Below w.heap.size w w1) (hn : S'.length = L) (hc : Cel (fun k => w.heap.size ≤ k) w1 3 (.slice la L lc) L (filCs S') lg) :
    (∃ a' c' g', RAt (Grow O w (((w1.setCell ⟨p, 1, none⟩ (.slice la L lc)).setCell ⟨p, 2, none⟩ (.int .i64 0)).setCell ⟨p, 3, none⟩ (.bool false))) (((w1.setCell ⟨p, 1, none⟩ (.slice la L lc)).setCell ⟨p, 2, none⟩ (.int .i64 0)).setCell ⟨p, 3, none⟩ (.bool false)) p a' c' g' ⟨room, 0, false, S'⟩) ∧ Stay O w (((w1.setCell ⟨p, 1, none⟩ (.slice la L lc)).setCell ⟨p, 2, none⟩ (.int .i64 0)).setCell ⟨p, 3, none⟩ (.bool false)) := by
  have hS := (Stay.of_below hb : Stay O w w1).then_same (Stay.setCell w1 ⟨p, 1, none⟩ (.slice la L lc) h.oP)
  have hS2 := (hS.then_same (Stay.setCell _ ⟨p, 2, none⟩ (.int .i64 0) h.oP)).then_same (Stay.setCell _ ⟨p, 3, none⟩ (.bool false) h.oP)
  have h1 := h.setFiles (Stay.of_below hb) hn hc
  have h2 := (h1.setFuse 0).setDown false
  exact ⟨⟨_, _, _, h2.wide (fun k hk => hk.elim .inl (fun e => .inr ⟨e.1, by simpa [World.setCell] using e.2⟩)) (fun k hk => hk.elim (fun e => Nat.lt_of_lt_of_le (h.lt k e) hS2.size) (fun e => e.2))⟩, hS2⟩

set_option maxRecDepth 100000 in
set_option maxHeartbeats 4000000 in
theorem refCrash_val {room fuse : Int} {S : FS} {down : Bool} (h : RAt O w p a c g ⟨room, fuse, down, S⟩) (hf : Fit ⟨room, fuse, down, S⟩) (ka : Option Addr) (kb koff kcap m : Nat) (ks : List Int) (hm : ks.length = m) (hmx : m ≤ maxLen) (hI : Ints w .i64 ka kb koff ks) (hks : ∀ k ∈ ks, -9223372036854775808 ≤ k ∧ k ≤ 9223372036854775807) :
    Calls Tryz.prog 27 #[.pointer (some ⟨p, 0, none⟩), .slice ka m kcap] w fun e w' => e = .returned (.tuple #[]) ∧ (∃ a' c' g', RAt (Grow O w w') w' p a' c' g' ⟨room, 0, false, crashL ks S⟩) ∧ Stay O w w' := by
  obtain ⟨ti, hi1, hi2, hi3, hi4⟩ := fileRow
  have hS20 : S.length ≤ 20 := hf.most
  have hmx2 : m ≤ 9223372036854775807 := by unfold maxLen at hmx; omega
  have HR : Hid _ := h
  have HF : Hid _ := hf
  have HM : Hid _ := hm
  have HI : Hid _ := hI
  have HK : Hid _ := hks
  have hpw : p < w.heap.size := h.lt p h.oP
  obtain ⟨N, hN⟩ : ∃ N, S.length = N := ⟨_, rfl⟩
  have HN : Hid _ := hN
  rw [hN] at hS20
  clear h hf hm hmx hI hks hN
  go_enter Tryz.func27, Tryz.ntmps27
  go_wp2
  go_loopw [4, 5] (fun vo vi wr => ∃ (i : Nat) (oa : Option Addr) (oc L : Nat) (og : Option Nat), i ≤ N ∧ L ≤ i ∧ vi = .int .i64 i ∧ vo = .slice oa L oc ∧ (crashL ks (S.take i)).length = L ∧ Cel (fun k => w.heap.size ≤ k) wr 3 (.slice oa L oc) L (filCs (crashL ks (S.take i))) og ∧ Below w.heap.size w wr) (fun _ vi _ => N - (intOf vi).toNat)
  case atStart => exact ⟨0, none, 0, 0, none, by omega, by omega, rfl, rfl, by simp [crashL_nil], .nil rfl rfl (by simp [crashL_nil, filCs]), Below.refl _ _⟩
  case round =>
    obtain ⟨i, oa, oc, L, og, hin, hLi, rfl, rfl, hLL, hC, hB⟩ := hrel
    have hRr := HR.out.below hB
    have c1 : wr.cell? ⟨p, 1, none⟩ = some (.slice a N c) := by rw [← HN.out]; exact hRr.c1
    have hwr := hB.size
    by_cases hlt : i < N
    · have hiS : i < S.length := by rw [HN.out]; exact hlt
      obtain ⟨k, ha, hg2, r0, r1, r2⟩ := hRr.file hiS
      subst ha hg2
      have hdat := HF.out.data _ (List.getElem_mem hiS)
      have hct := crashL_take ks S i hiS
      obtain ⟨C, hC0⟩ : ∃ C, ks.getD i 0 = C := ⟨_, rfl⟩
      have hCr : -9223372036854775808 ≤ C ∧ C ≤ 9223372036854775807 := by
        rw [← hC0, List.getD_eq_getElem?_getD]
        by_cases him : i < ks.length
        · rw [List.getElem?_eq_getElem him]; exact HK.out _ (List.getElem_mem him)
        · rw [List.getElem?_eq_none (by omega)]; simp
      obtain ⟨hC1, hC2⟩ := hCr
      have hld : (i < m → ka = some ⟨kb, koff, none⟩ ∧ wr.cell? ⟨kb, koff + i, none⟩ = some (.int .i64 C)) ∧ (¬ i < m → C = 0) := by
        refine ⟨fun him => ?_, fun him => ?_⟩
        · have him2 : i < ks.length := by rw [HM.out]; exact him
          refine ⟨HI.out.addr (by omega), ?_⟩
          rw [(HI.out.below hB).cell i him2, ← hC0, List.getD_eq_getElem?_getD, List.getElem?_eq_getElem him2]; rfl
        · rw [← hC0, List.getD_eq_getElem?_getD, List.getElem?_eq_none (by rw [HM.out]; omega)]; rfl
      have HLD : Hid _ := hld
      rw [hC0] at hct
      generalize hx : S[i] = x at *
      obtain ⟨xn, xd, xs⟩ := x
      have r0' : wr.cell? ⟨k, i * 3, none⟩ = some (.string (ba xn)) := r0
      have r1' : wr.cell? ⟨k, i * 3 + 1, none⟩ = some (.string (ba xd)) := r1
      have r2' : wr.cell? ⟨k, i * 3 + 2, none⟩ = some (.int .i64 (xs : Int)) := r2
      have hd1 : xd.length ≤ 400000 := hdat.1
      have hd2 : xs ≤ xd.length := hdat.2
      obtain ⟨D, hD⟩ : ∃ D, xd.length = D := ⟨_, rfl⟩
      have hDz : (ba xd).size = D := by rw [ba_size]; exact hD
      rw [hD] at hd1 hd2
      obtain ⟨kn, hkn⟩ : ∃ kn, keepN C = kn := ⟨_, rfl⟩
      obtain ⟨mm, hmm⟩ : ∃ mm, D - xs = mm := ⟨_, rfl⟩
      have hDm : (D : Int) - (xs : Int) = (mm : Int) := by omega
      obtain ⟨Q, hQ⟩ : ∃ Q, kn % (mm + 1) = Q := ⟨_, rfl⟩
      have hlq : Q < mm + 1 := by rw [← hQ]; exact Nat.mod_lt _ (by omega)
      have hr1 : (kn : Int).tmod ((mm : Int) + 1) = (Q : Int) := by rw [Int.tmod_eq_emod_of_nonneg (by omega), ← hQ]; rfl
      have hr2 : (kn : Int) % ((mm : Int) + 1) = (Q : Int) := by rw [← hQ]; rfl
      obtain ⟨E, hE⟩ : ∃ E, xs + Q = E := ⟨_, rfl⟩
      have hqe : (xs : Int) + (Q : Int) = (E : Int) := by omega
      have hED : E ≤ D := by omega
      have hcut : cutN (xd, xs) C = E := by unfold cutN; simp only; rw [hkn, hD, hmm, hQ, hE]
      have hXz : (ba (xd.take E)).size = E := by rw [ba_size, List.length_take]; omega
      have hex : (ba xd).extract 0 E = ba (xd.take E) := ba_cut xd E
      simp only [hcut] at hct
      have HCT : Hid _ := hct
      have HC : Hid (Cel (fun k => w.heap.size ≤ k) wr 3 (.slice oa L oc) L (filCs (crashL ks (S.take i))) og) := hC
      have HB : Hid _ := hB
      have HLL : Hid _ := hLL
      unfold keepN at hkn
      clear r0 r1 r2 hRr hC hB hdat hct hld hC0 hcut hQ hmm hLL hx
      have hbel : ∀ o, Below wr.heap.size wr (wr.alloc o) := fun o => (Below.refl _ wr).alloc (Nat.le_refl _) o
      have HBC : Hid _ := hbel
      have hst := run_store_str
      clear hbel
      by_cases him : i < m
      · have hl0 := HLD.out.1 him
        obtain ⟨rfl, q3⟩ := hl0
        have q3a := ((HBC.out (.cells #[.string (ba xn), .string (ba xd), .int .i64 (xs : Int)] 118)).cell (p := ⟨kb, koff + i, none⟩) (World.block_lt_of_cell? _ _ q3)).trans q3
        by_cases hneg : C < 0
        · rw [if_pos hneg] at hkn
          have hkk : -(C + 1) = (kn : Int) := by omega
          rcases Nat.eq_zero_or_pos E with hE0 | hE0
          · have hx0 : xs = 0 := by omega
            have hct2 : crashL ks (S.take (i + 1)) = crashL ks (S.take i) := by rw [HCT.out, if_pos hE0, List.append_nil]
            have HCT2 : Hid _ := hct2
            have hE1 : decide ((0 : Int) < (E : Int)) = false := decide_eq_false (by omega)
            have hE1n : decide (0 < E) = false := decide_eq_false (by omega)
            have hE2n : decide (0 < xs) = false := decide_eq_false (by omega)
            have hE2 : decide ((0 : Int) < (xs : Int)) = false := decide_eq_false (by omega)
            clear hct2 hE0 hx0
            go_wp2
            go_roundw
            case rel => exact ⟨i + 1, oa, oc, L, og, by omega, by omega, by go_num, rfl, by rw [HCT2.out]; exact HLL.out, by rw [HCT2.out]; exact HC.out.below (HBC.out _), HB.out.trans ((HBC.out _).mono hwr)⟩
            case measure => simp [intOf]; omega
          · have hct2 : crashL ks (S.take (i + 1)) = crashL ks (S.take i) ++ [(xn, xd.take E, E)] := by rw [HCT.out, if_neg (by omega)]
            have HCT2 : Hid _ := hct2
            have hE1 : decide ((0 : Int) < (E : Int)) = true := decide_eq_true (by omega)
            have hE1n : decide (0 < E) = true := decide_eq_true (by omega)
            clear hct2
            go_wp2_with (at_builtin; refine wpList_append_cel _ rfl _ _ 95 95 rfl 118 ti _ 3 40 Tryz.underlying95 hi1 hi2 hi3 hi4 rfl (O := fun k => w.heap.size ≤ k) _ L _ og rfl ((HC.out.below (HBC.out _)).below ((Below.refl _ _).alloc (Nat.le_refl _) _)) _ 1 (filC (xn, xd.take E, E)) rfl (src_oneB (wr.alloc (.cells #[.string (ba xn), .string (ba (xd.take E)), .int .i64 (E : Int)] 118)) (wr.heap.size + 1) (xn, xd.take E, E) (by simp)) (by unfold maxLen; omega) (by omega) ?_; intro ea ec we eg hCe hste hfe)
            have hCe' := Cel.lowG (by simp; omega) hCe
            have hbe := hste.below (B := w.heap.size) (by simp; omega) (fun k hk => by have := HC.out; rw [hk] at this; exact this.lt.2)
            rw [← filCs_one, ← filCs_app, ← HCT2.out] at hCe'
            have He : Hid (Cel (fun k => w.heap.size ≤ k) we 3 (.slice ea (L + 1) ec) (L + 1) (filCs (crashL ks (S.take (i + 1)))) eg) := hCe'
            have HBe : Hid (Below w.heap.size w we) := (((HB.out.trans ((HBC.out _).mono hwr))).trans ((Below.refl _ _).alloc (by simp; omega) (.cells #[.string (ba xn), .string (ba (xd.take E)), .int .i64 (E : Int)] 118))).trans hbe
            clear hCe hCe' hbe hste hfe
            go_roundw
            case rel => exact ⟨i + 1, ea, ec, L + 1, eg, by omega, by omega, by go_num, by first | rfl | (congr 1 <;> omega), by rw [HCT2.out, List.length_append, HLL.out]; rfl, He.out, HBe.out⟩
            case measure => simp [intOf]; omega
        · rw [if_neg hneg] at hkn
          have hCk : C = (kn : Int) := by omega
          subst hCk
          rcases Nat.eq_zero_or_pos E with hE0 | hE0
          · have hx0 : xs = 0 := by omega
            have hct2 : crashL ks (S.take (i + 1)) = crashL ks (S.take i) := by rw [HCT.out, if_pos hE0, List.append_nil]
            have HCT2 : Hid _ := hct2
            have hE1 : decide ((0 : Int) < (E : Int)) = false := decide_eq_false (by omega)
            have hE1n : decide (0 < E) = false := decide_eq_false (by omega)
            have hE2n : decide (0 < xs) = false := decide_eq_false (by omega)
            have hE2 : decide ((0 : Int) < (xs : Int)) = false := decide_eq_false (by omega)
            clear hct2 hE0 hx0
            go_wp2
            go_roundw
            case rel => exact ⟨i + 1, oa, oc, L, og, by omega, by omega, by go_num, rfl, by rw [HCT2.out]; exact HLL.out, by rw [HCT2.out]; exact HC.out.below (HBC.out _), HB.out.trans ((HBC.out _).mono hwr)⟩
            case measure => simp [intOf]; omega
          · have hct2 : crashL ks (S.take (i + 1)) = crashL ks (S.take i) ++ [(xn, xd.take E, E)] := by rw [HCT.out, if_neg (by omega)]
            have HCT2 : Hid _ := hct2
            have hE1 : decide ((0 : Int) < (E : Int)) = true := decide_eq_true (by omega)
            have hE1n : decide (0 < E) = true := decide_eq_true (by omega)
            clear hct2
            go_wp2_with (at_builtin; refine wpList_append_cel _ rfl _ _ 95 95 rfl 118 ti _ 3 40 Tryz.underlying95 hi1 hi2 hi3 hi4 rfl (O := fun k => w.heap.size ≤ k) _ L _ og rfl ((HC.out.below (HBC.out _)).below ((Below.refl _ _).alloc (Nat.le_refl _) _)) _ 1 (filC (xn, xd.take E, E)) rfl (src_oneB (wr.alloc (.cells #[.string (ba xn), .string (ba (xd.take E)), .int .i64 (E : Int)] 118)) (wr.heap.size + 1) (xn, xd.take E, E) (by simp)) (by unfold maxLen; omega) (by omega) ?_; intro ea ec we eg hCe hste hfe)
            have hCe' := Cel.lowG (by simp; omega) hCe
            have hbe := hste.below (B := w.heap.size) (by simp; omega) (fun k hk => by have := HC.out; rw [hk] at this; exact this.lt.2)
            rw [← filCs_one, ← filCs_app, ← HCT2.out] at hCe'
            have He : Hid (Cel (fun k => w.heap.size ≤ k) we 3 (.slice ea (L + 1) ec) (L + 1) (filCs (crashL ks (S.take (i + 1)))) eg) := hCe'
            have HBe : Hid (Below w.heap.size w we) := (((HB.out.trans ((HBC.out _).mono hwr))).trans ((Below.refl _ _).alloc (by simp; omega) (.cells #[.string (ba xn), .string (ba (xd.take E)), .int .i64 (E : Int)] 118))).trans hbe
            clear hCe hCe' hbe hste hfe
            go_roundw
            case rel => exact ⟨i + 1, ea, ec, L + 1, eg, by omega, by omega, by go_num, by first | rfl | (congr 1 <;> omega), by rw [HCT2.out, List.length_append, HLL.out]; rfl, He.out, HBe.out⟩
            case measure => simp [intOf]; omega
      · have hl0 := HLD.out.2 him
        subst hl0
        have hk0 : kn = 0 := by rw [← hkn]; rfl
        subst hk0
        have hQ0 : Q = 0 := by have := hr1; simp at this; omega
        subst hQ0
        rcases Nat.eq_zero_or_pos E with hE0 | hE0
        · have hx0 : xs = 0 := by omega
          have hct2 : crashL ks (S.take (i + 1)) = crashL ks (S.take i) := by rw [HCT.out, if_pos hE0, List.append_nil]
          have HCT2 : Hid _ := hct2
          have hE1 : decide ((0 : Int) < (E : Int)) = false := decide_eq_false (by omega)
          have hE1n : decide (0 < E) = false := decide_eq_false (by omega)
          have hE2n : decide (0 < xs) = false := decide_eq_false (by omega)
          have hE2 : decide ((0 : Int) < (xs : Int)) = false := decide_eq_false (by omega)
          clear hct2 hE0 hx0
          go_wp2
          go_roundw
          case rel => exact ⟨i + 1, oa, oc, L, og, by omega, by omega, by go_num, rfl, by rw [HCT2.out]; exact HLL.out, by rw [HCT2.out]; exact HC.out.below (HBC.out _), HB.out.trans ((HBC.out _).mono hwr)⟩
          case measure => simp [intOf]; omega
        · obtain rfl : E = xs := by omega
          have hct2 : crashL ks (S.take (i + 1)) = crashL ks (S.take i) ++ [(xn, xd.take E, E)] := by rw [HCT.out, if_neg (by omega)]
          have HCT2 : Hid _ := hct2
          have hE1 : decide ((0 : Int) < (E : Int)) = true := decide_eq_true (by omega)
          have hE1n : decide (0 < E) = true := decide_eq_true (by omega)
          clear hct2
          go_wp2_with (at_builtin; refine wpList_append_cel _ rfl _ _ 95 95 rfl 118 ti _ 3 40 Tryz.underlying95 hi1 hi2 hi3 hi4 rfl (O := fun k => w.heap.size ≤ k) _ L _ og rfl ((HC.out.below (HBC.out _)).below ((Below.refl _ _).alloc (Nat.le_refl _) _)) _ 1 (filC (xn, xd.take E, E)) rfl (src_oneB (wr.alloc (.cells #[.string (ba xn), .string (ba (xd.take E)), .int .i64 (E : Int)] 118)) (wr.heap.size + 1) (xn, xd.take E, E) (by simp)) (by unfold maxLen; omega) (by omega) ?_; intro ea ec we eg hCe hste hfe)
          have hCe' := Cel.lowG (by simp; omega) hCe
          have hbe := hste.below (B := w.heap.size) (by simp; omega) (fun k hk => by have := HC.out; rw [hk] at this; exact this.lt.2)
          rw [← filCs_one, ← filCs_app, ← HCT2.out] at hCe'
          have He : Hid (Cel (fun k => w.heap.size ≤ k) we 3 (.slice ea (L + 1) ec) (L + 1) (filCs (crashL ks (S.take (i + 1)))) eg) := hCe'
          have HBe : Hid (Below w.heap.size w we) := (((HB.out.trans ((HBC.out _).mono hwr))).trans ((Below.refl _ _).alloc (by simp; omega) (.cells #[.string (ba xn), .string (ba (xd.take E)), .int .i64 (E : Int)] 118))).trans hbe
          clear hCe hCe' hbe hste hfe
          go_roundw
          case rel => exact ⟨i + 1, ea, ec, L + 1, eg, by omega, by omega, by go_num, by first | rfl | (congr 1 <;> omega), by rw [HCT2.out, List.length_append, HLL.out]; rfl, He.out, HBe.out⟩
          case measure => simp [intOf]; omega
    · obtain rfl : i = N := by omega
      have htk : S.take i = S := List.take_of_length_le (by rw [HN.out]; omega)
      rw [htk] at hLL hC
      have hfin := HR.out.crashed hB hLL hC
      have f1 := hRr.f1
      have c2 := hRr.c2
      have f2 := hRr.f2
      have c3 := hRr.c3
      have f3 := hRr.f3
      have c2' := cell_setP (k := 1) (v := .slice oa L oc) (show 2 ≠ 1 by decide) c2
      have c3' := cell_setP (k := 2) (v := .int .i64 0) (show 3 ≠ 2 by decide) (cell_setP (k := 1) (v := .slice oa L oc) (show 3 ≠ 1 by decide) c3)
      have HFIN : Hid _ := hfin
      clear hfin hRr hC hLL hlt htk
      go_wp2
      go_end0
      exact ⟨rfl, HFIN.out⟩

end

end Go.Proofs.YtfmhmokbbkliaaaGreat

/- The disk and the document's, side by side. -/
namespace Go.Proofs.YtfmhmokbbkliaaaGreat
open Go.RowKit

/-- The disk stands at d1, the document's at d2; nothing in common; a block pf, which is no part of them, holds B. -/
structure Half (w0 : World) (pf : Option Nat) (B : Option Obj) (w : World) (pd px : Nat) (d1 d2 : DS) : Prop where
  out : ∃ O1 O2, DAt O1 w pd d1 ∧ (∃ a c g, RAt O2 w px a c g d2) ∧ Fit d2 ∧ (∀ k, O1 k → ¬ O2 k) ∧ (∀ k, O1 k → w0.heap.size ≤ k) ∧ (∀ k, O2 k → w0.heap.size ≤ k) ∧ Below w0.heap.size w0 w ∧ (∀ k, pf = some k → ¬ O1 k ∧ ¬ O2 k ∧ k < w.heap.size ∧ w.heap[k]? = B)

theorem fit_of {O : Nat → Prop} {w : World} {pd : Nat} {ds : DS} (h : DAt O w pd ds) : Fit ds := by
  obtain ⟨b, V, B, h⟩ := h
  exact ⟨h.rise, h.name, h.data, h.most, h.r0, h.fu⟩
theorem lt_of {O : Nat → Prop} {w : World} {pd : Nat} {ds : DS} (h : DAt O w pd ds) : ∀ k, O k → k < w.heap.size := by
  obtain ⟨b, V, B, h⟩ := h
  exact h.lt

section
variable {w0 w : World} {pf : Option Nat} {B : Option Obj} {pd px : Nat} {ds d1 d2 : DS}

theorem Half.bel (h : Half w0 pf B w pd px d1 d2) : Below w0.heap.size w0 w := by
  obtain ⟨O1, O2, _, _, _, _, _, _, h, _⟩ := h.out
  exact h
theorem Half.below {w' : World} (h : Half w0 pf B w pd px d1 d2) (hb : Below w.heap.size w w') : Half w0 pf B w' pd px d1 d2 := by
  obtain ⟨O1, O2, h1, ⟨a, c, g, h2⟩, hf, h3, h4, h5, h6, hp⟩ := h.out
  exact ⟨O1, O2, h1.below hb, ⟨a, c, g, h2.below hb⟩, hf, h3, h4, h5, bel_tr h6 hb, fun k hk => by obtain ⟨n1, n2, n3, n4⟩ := hp k hk; exact ⟨n1, n2, Nat.lt_of_lt_of_le n3 hb.size, (hb.block k n3).trans n4⟩⟩

theorem Half.cell {k : Nat} (h : Half w0 (some k) B w pd px d1 d2) {wa : World} (hB : wa.heap[k]? = B) (j : Nat) : w.cell? ⟨k, j, none⟩ = wa.cell? ⟨k, j, none⟩ := by
  obtain ⟨O1, O2, _, _, _, _, _, _, _, hp⟩ := h.out
  exact World.cell?_of_block (a := ⟨k, j, none⟩) ((hp k rfl).2.2.2.trans hB.symm)

theorem Half.box (h : Half w0 pf B w pd px d1 d2) (o : Obj) : Half w0 (some w.heap.size) ((w.alloc o).heap[w.heap.size]?) (w.alloc o) pd px d1 d2 := by
  obtain ⟨O1, O2, h1, ⟨a, c, g, h2⟩, hf, h3, h4, h5, h6, hp⟩ := h.out
  have hb : Below w.heap.size w (w.alloc o) := (Below.refl _ w).alloc (Nat.le_refl _) o
  exact ⟨O1, O2, h1.below hb, ⟨a, c, g, h2.below hb⟩, hf, h3, h4, h5, bel_tr h6 hb, fun k hk => by
    cases hk
    exact ⟨fun e => by have := lt_of h1 _ e; omega, fun e => by have := h2.lt _ e; omega, by simp, rfl⟩⟩

/-- The disk has done something. -/
theorem half_do {O1 O2 O1' : Nat → Prop} {w' : World} {a : Option Addr} {c : Nat} {g : Option Nat} {d1' : DS} (h2 : RAt O2 w px a c g d2) (hf : Fit d2) (h3 : ∀ k, O1 k → ¬ O2 k) (h4 : ∀ k, O1 k → w0.heap.size ≤ k) (h5 : ∀ k, O2 k → w0.heap.size ≤ k) (h6 : Below w0.heap.size w0 w) (hp : ∀ k, pf = some k → ¬ O1 k ∧ ¬ O2 k ∧ k < w.heap.size ∧ w.heap[k]? = B)
    (e1 : DAt O1' w' pd d1') (hO : ∀ k, O1' k → Grow O1 w w' k) (e2 : Stay O1 w w') : Half w0 pf B w' pd px d1' d2 := by
  refine ⟨O1', O2, e1, ⟨a, c, g, h2.stay e2 (fun k h2k h1k => h3 k h1k h2k)⟩, hf, fun k hk e => ?_, fun k hk => ?_, h5, h6.trans (e2.below h6.size h4), fun k hk => by obtain ⟨n1, n2, n3, n4⟩ := hp k hk; exact ⟨fun e => (hO k e).elim n1 (fun e => by omega), n2, Nat.lt_of_lt_of_le n3 e2.size, (e2.block k n3 n1).trans n4⟩⟩
  · rcases hO k hk with hk | hk
    · exact h3 k hk e
    · have := h2.lt k e; omega
  · rcases hO k hk with hk | hk
    · exact h4 k hk
    · exact Nat.le_trans h6.size hk.1

/-- The document's has done the same. -/
theorem half_same {O1 O2 O2' : Nat → Prop} {w' : World} {a : Option Addr} {c : Nat} {g : Option Nat} (h1 : DAt O1 w pd d1) (h3 : ∀ k, O1 k → ¬ O2 k) (h4 : ∀ k, O1 k → w0.heap.size ≤ k) (h5 : ∀ k, O2 k → w0.heap.size ≤ k) (h6 : Below w0.heap.size w0 w) (hp : ∀ k, pf = some k → ¬ O1 k ∧ ¬ O2 k ∧ k < w.heap.size ∧ w.heap[k]? = B)
    (e1 : RAt O2' w' px a c g d1) (hO : ∀ k, O2' k → Grow O2 w w' k) (e2 : Stay O2 w w') : Half w0 pf B w' pd px d1 d1 := by
  have hl := lt_of h1
  refine ⟨O1, O2', h1.stay e2 (fun k h1k h2k => h3 k h1k h2k), ⟨a, c, g, e1⟩, fit_of h1, fun k hk e => ?_, h4, fun k hk => ?_, h6.trans (e2.below h6.size h5), fun k hk => by obtain ⟨n1, n2, n3, n4⟩ := hp k hk; exact ⟨n1, fun e => (hO k e).elim n2 (fun e => by omega), Nat.lt_of_lt_of_le n3 e2.size, (e2.block k n3 n2).trans n4⟩⟩
  · rcases hO k e with e | e
    · exact h3 k hk e
    · have := hl k hk; omega
  · rcases hO k hk with hk | hk
    · exact h5 k hk
    · exact Nat.le_trans h6.size hk.1

theorem d_append (h : Half w0 pf B w pd px ds ds) (s d : ByteArray) (hs : s.size ≤ maxLen) (hd : d.size ≤ 140737488355328) (q : Int) (hq : begE ds (refA ds s.data.toList d.data.toList) = q) {ds' : DS} (hds : doD ds (refA ds s.data.toList d.data.toList) (fapp s.data.toList d.data.toList) = ds') :
    Calls Tryz.prog 33 #[.pointer (some ⟨pd, 0, none⟩), .string s, .string d] w fun e w' => e = .returned (.int .i64 q) ∧ Half w0 pf B w' pd px ds' ds := by
  obtain ⟨O1, O2, h1, ⟨a, c, g, h2⟩, hf, h3, h4, h5, h6, hp⟩ := h.out
  exact (append_val h1 s d hs hd q hq hds).mono fun e w' ⟨e1, e2, e3⟩ => ⟨e1, half_do h2 hf h3 h4 h5 h6 hp e2 (fun _ e => e) e3⟩
theorem x_append {ds' : DS} (h : Half w0 pf B w pd px ds' ds) (s d : ByteArray) (hs : s.size ≤ maxLen) (hd : d.size ≤ 140737488355328) (q : Int) (hq : begE ds (refA ds s.data.toList d.data.toList) = q) (hds : doD ds (refA ds s.data.toList d.data.toList) (fapp s.data.toList d.data.toList) = ds') :
    Calls Tryz.prog 34 #[.pointer (some ⟨px, 0, none⟩), .string s, .string d] w fun e w' => e = .returned (.int .i64 q) ∧ Half w0 pf B w' pd px ds' ds' := by
  obtain ⟨O1, O2, h1, ⟨a, c, g, h2⟩, hf, h3, h4, h5, h6, hp⟩ := h.out
  have hl : ∀ t : ByteArray, t.data.toList.length = t.size := fun t => Array.length_toList
  exact (refAppend_val h2 hf s.data.toList d.data.toList (by rw [hl]; exact hs) (by rw [hl]; exact hd) q hq hds).mono fun e w' ⟨e1, ⟨a', c', g', e2⟩, e3⟩ => ⟨e1, half_same h1 h3 h4 h5 h6 hp e2 (fun _ e => e) e3⟩

theorem d_sync (h : Half w0 pf B w pd px ds ds) (s : ByteArray) (hs : s.size ≤ maxLen) (q : Int) (hq : begE ds (refM ds.S s.data.toList) = q) {ds' : DS} (hds : doD ds (refM ds.S s.data.toList) (fsyn s.data.toList) = ds') :
    Calls Tryz.prog 157 #[.pointer (some ⟨pd, 0, none⟩), .string s] w fun e w' => e = .returned (.int .i64 q) ∧ Half w0 pf B w' pd px ds' ds := by
  obtain ⟨O1, O2, h1, ⟨a, c, g, h2⟩, hf, h3, h4, h5, h6, hp⟩ := h.out
  exact (sync_val h1 s hs q hq hds).mono fun e w' ⟨e1, e2, e3⟩ => ⟨e1, half_do h2 hf h3 h4 h5 h6 hp e2 (fun _ e => e) e3⟩
theorem x_sync {ds' : DS} (h : Half w0 pf B w pd px ds' ds) (s : ByteArray) (q : Int) (hq : begE ds (refM ds.S s.data.toList) = q) (hds : doD ds (refM ds.S s.data.toList) (fsyn s.data.toList) = ds') :
    Calls Tryz.prog 140 #[.pointer (some ⟨px, 0, none⟩), .string s] w fun e w' => e = .returned (.int .i64 q) ∧ Half w0 pf B w' pd px ds' ds' := by
  obtain ⟨O1, O2, h1, ⟨a, c, g, h2⟩, hf, h3, h4, h5, h6, hp⟩ := h.out
  exact (refSync_val h2 hf s.data.toList q hq hds).mono fun e w' ⟨e1, ⟨a', c', g', e2⟩, e3⟩ => ⟨e1, half_same h1 h3 h4 h5 h6 hp e2 (fun _ e => e) e3⟩

theorem d_delete (h : Half w0 pf B w pd px ds ds) (s : ByteArray) (hs : s.size ≤ maxLen) (q : Int) (hq : begE ds (refM ds.S s.data.toList) = q) {ds' : DS} (hds : doD ds (refM ds.S s.data.toList) (fun S => fdel S s.data.toList) = ds') :
    Calls Tryz.prog 156 #[.pointer (some ⟨pd, 0, none⟩), .string s] w fun e w' => e = .returned (.int .i64 q) ∧ Half w0 pf B w' pd px ds' ds := by
  obtain ⟨O1, O2, h1, ⟨a, c, g, h2⟩, hf, h3, h4, h5, h6, hp⟩ := h.out
  exact (delete_val h1 s hs q hq hds).mono fun e w' ⟨e1, e2, e3⟩ => ⟨e1, half_do h2 hf h3 h4 h5 h6 hp e2 (fun _ e => e) e3⟩
theorem x_delete {ds' : DS} (h : Half w0 pf B w pd px ds' ds) (s : ByteArray) (q : Int) (hq : begE ds (refM ds.S s.data.toList) = q) (hds : doD ds (refM ds.S s.data.toList) (fun S => fdel S s.data.toList) = ds') :
    Calls Tryz.prog 139 #[.pointer (some ⟨px, 0, none⟩), .string s] w fun e w' => e = .returned (.int .i64 q) ∧ Half w0 pf B w' pd px ds' ds' := by
  obtain ⟨O1, O2, h1, ⟨a, c, g, h2⟩, hf, h3, h4, h5, h6, hp⟩ := h.out
  exact (refDelete_val h2 hf s.data.toList q hq hds).mono fun e w' ⟨e1, ⟨a', c', g', e2⟩, e3⟩ => ⟨e1, half_same h1 h3 h4 h5 h6 hp e2 (fun _ e => e) e3⟩

theorem d_rename (h : Half w0 pf B w pd px ds ds) (s d : ByteArray) (hs : s.size ≤ maxLen) (hd : d.size ≤ maxLen) (q : Int) (hq : begE ds (refR ds.S s.data.toList d.data.toList) = q) {ds' : DS} (hds : doD ds (refR ds.S s.data.toList d.data.toList) (fren s.data.toList d.data.toList) = ds') :
    Calls Tryz.prog 138 #[.pointer (some ⟨pd, 0, none⟩), .string s, .string d] w fun e w' => e = .returned (.int .i64 q) ∧ Half w0 pf B w' pd px ds' ds := by
  obtain ⟨O1, O2, h1, ⟨a, c, g, h2⟩, hf, h3, h4, h5, h6, hp⟩ := h.out
  exact (rename_val h1 s d hs hd q hq hds).mono fun e w' ⟨e1, e2, e3⟩ => ⟨e1, half_do h2 hf h3 h4 h5 h6 hp e2 (fun _ e => e) e3⟩
theorem x_rename {ds' : DS} (h : Half w0 pf B w pd px ds' ds) (s d : ByteArray) (hd : d.size ≤ maxLen) (q : Int) (hq : begE ds (refR ds.S s.data.toList d.data.toList) = q) (hds : doD ds (refR ds.S s.data.toList d.data.toList) (fren s.data.toList d.data.toList) = ds') :
    Calls Tryz.prog 141 #[.pointer (some ⟨px, 0, none⟩), .string s, .string d] w fun e w' => e = .returned (.int .i64 q) ∧ Half w0 pf B w' pd px ds' ds' := by
  obtain ⟨O1, O2, h1, ⟨a, c, g, h2⟩, hf, h3, h4, h5, h6, hp⟩ := h.out
  have hl : ∀ t : ByteArray, t.data.toList.length = t.size := fun t => Array.length_toList
  exact (refRename_val h2 hf s.data.toList d.data.toList (by rw [hl]; exact hd) q hq hds).mono fun e w' ⟨e1, ⟨a', c', g', e2⟩, e3⟩ => ⟨e1, half_same h1 h3 h4 h5 h6 hp e2 (fun _ e => e) e3⟩

theorem d_fuse (h : Half w0 pf B w pd px ds ds) (n f : Int) (hn : -9223372036854775808 ≤ n ∧ n < 9223372036854775808) (hf : max n 0 = f) :
    Calls Tryz.prog 24 #[.pointer (some ⟨pd, 0, none⟩), .int .i64 n] w fun e w' => e = .returned (.tuple #[]) ∧ Half w0 pf B w' pd px { ds with fuse := f } ds := by
  obtain ⟨O1, O2, h1, ⟨a, c, g, h2⟩, hf2, h3, h4, h5, h6, hp⟩ := h.out
  exact (fuse_val h1 n f hn hf).mono fun e w' ⟨e1, e2, e3⟩ => ⟨e1, half_do h2 hf2 h3 h4 h5 h6 hp e2 (fun _ e => .inl e) e3⟩
theorem x_fuse {f : Int} (h : Half w0 pf B w pd px { ds with fuse := f } ds) (n : Int) (hn : -9223372036854775808 ≤ n ∧ n < 9223372036854775808) (hf : max n 0 = f) :
    Calls Tryz.prog 25 #[.pointer (some ⟨px, 0, none⟩), .int .i64 n] w fun e w' => e = .returned (.tuple #[]) ∧ Half w0 pf B w' pd px { ds with fuse := f } { ds with fuse := f } := by
  obtain ⟨O1, O2, h1, ⟨a, c, g, h2⟩, hf2, h3, h4, h5, h6, hp⟩ := h.out
  exact (refFuse_val h2 n f hn hf).mono fun e w' ⟨e1, e2, e3⟩ => ⟨e1, half_same h1 h3 h4 h5 h6 hp e2 (fun _ e => .inl e) e3⟩

theorem d_crash (h : Half w0 pf B w pd px ds ds) (ka : Option Addr) (kb koff kcap m : Nat) (ks : List Int) (hm : ks.length = m) (hmx : m ≤ maxLen) (hI : Ints w0 .i64 ka kb koff ks) (hks : ∀ k ∈ ks, -9223372036854775808 ≤ k ∧ k ≤ 9223372036854775807) :
    Calls Tryz.prog 26 #[.pointer (some ⟨pd, 0, none⟩), .slice ka m kcap] w fun e w' => e = .returned (.tuple #[]) ∧ Half w0 pf B w' pd px ⟨ds.room, 0, false, crashL ks ds.S⟩ ds := by
  obtain ⟨O1, O2, h1, ⟨a, c, g, h2⟩, hf, h3, h4, h5, h6, hp⟩ := h.out
  refine (crash_val h1 ka kb koff kcap m ks hm hmx (hI.below h6) (fun hp e => ?_) hks).mono fun e w' ⟨e1, e2, e3⟩ => ⟨e1, half_do h2 hf h3 h4 h5 h6 hp e2 (fun _ e => .inl e) e3⟩
  have := hI.lt (by omega)
  have := h4 kb e
  omega
theorem x_crash (ka : Option Addr) (kb koff kcap m : Nat) (ks : List Int) (h : Half w0 pf B w pd px ⟨ds.room, 0, false, crashL ks ds.S⟩ ds) (hm : ks.length = m) (hmx : m ≤ maxLen) (hI : Ints w0 .i64 ka kb koff ks) (hks : ∀ k ∈ ks, -9223372036854775808 ≤ k ∧ k ≤ 9223372036854775807) :
    Calls Tryz.prog 27 #[.pointer (some ⟨px, 0, none⟩), .slice ka m kcap] w fun e w' => e = .returned (.tuple #[]) ∧ Half w0 pf B w' pd px ⟨ds.room, 0, false, crashL ks ds.S⟩ ⟨ds.room, 0, false, crashL ks ds.S⟩ := by
  obtain ⟨O1, O2, h1, ⟨a, c, g, h2⟩, hf, h3, h4, h5, h6, hp⟩ := h.out
  exact (refCrash_val h2 hf ka kb koff kcap m ks hm hmx (hI.below h6) hks).mono fun e w' ⟨e1, ⟨a', c', g', e2⟩, e3⟩ => ⟨e1, half_same h1 h3 h4 h5 h6 hp e2 (fun _ e => e) e3⟩

theorem d_read (h : Half w0 pf B w pd px ds ds) (s : ByteArray) (hs : s.size ≤ maxLen) (t : ByteArray) (q : Int) (ht : rdT ds s.data.toList = t) (hq : rdE ds s.data.toList = q) :
    Calls Tryz.prog 77 #[.pointer (some ⟨pd, 0, none⟩), .string s] w fun e w' => e = .returned (.tuple #[.string t, .int .i64 q]) ∧ Half w0 pf B w' pd px ds ds := by
  obtain ⟨O1, O2, h1, ⟨a, c, g, h2⟩, hf, h3, h4, h5, h6, hp⟩ := h.out
  exact (read_val h1 s hs t q ht hq).mono fun e w' ⟨e1, e2⟩ => ⟨e1, h.below e2⟩
theorem x_read (h : Half w0 pf B w pd px ds ds) (s : ByteArray) (t : ByteArray) (q : Int) (ht : rdT ds s.data.toList = t) (hq : rdE ds s.data.toList = q) :
    Calls Tryz.prog 59 #[.pointer (some ⟨px, 0, none⟩), .string s] w fun e w' => e = .returned (.tuple #[.string t, .int .i64 q]) ∧ w' = w := by
  obtain ⟨O1, O2, h1, ⟨a, c, g, h2⟩, hf, h3, h4, h5, h6, hp⟩ := h.out
  exact refRead_val h2 hf s.data.toList t q ht hq

end

end Go.Proofs.YtfmhmokbbkliaaaGreat

/- What the disk and the document's list, and what they use. -/
namespace Go.Proofs.YtfmhmokbbkliaaaGreat
open Go.RowKit

theorem list_both {w0 w : World} {pf : Option Nat} {B : Option Obj} {pd px : Nat} {ds : DS} (h : Half w0 pf B w pd px ds ds) (L : Nat) (hL : (listN ds).length = L) :
    Calls Tryz.prog 73 #[.pointer (some ⟨pd, 0, none⟩)] w fun e w' => ∃ a c b, e = .returned (.slice a L c) ∧ (0 < L → a = some ⟨b, 0, none⟩) ∧ (∀ j (hj : j < ((listN ds).map ba).length), w'.cell? ⟨b, j, none⟩ = some (.string ((listN ds).map ba)[j])) ∧ Half w0 pf B w' pd px ds ds := by
  obtain ⟨O1, O2, h1, ⟨a, c, g, h2⟩, hf, h3, h4, h5, h6, hp⟩ := h.out
  refine (list_val h1).mono fun e w' ⟨v, e1, e2, _, e3⟩ => ?_
  obtain ⟨_, a, c, b, hv, hb, hcell⟩ := own_names e2
  refine ⟨a, c, b, by rw [e1, hv, hL], fun hp => (hb (by omega)).1, fun j hj => ?_, h.below e3⟩
  have hj2 : j < (listN ds).length := by simpa using hj
  rw [hcell j hj2]
  simp [ba]

theorem list_ref {w0 w : World} {pf : Option Nat} {B : Option Obj} {pd px : Nat} {ds : DS} (h : Half w0 pf B w pd px ds ds) (L : Nat) (hL : (listN ds).length = L) :
    Calls Tryz.prog 74 #[.pointer (some ⟨px, 0, none⟩)] w fun e w' => ∃ a c b, e = .returned (.slice a L c) ∧ (0 < L → a = some ⟨b, 0, none⟩) ∧ (∀ j (hj : j < ((listN ds).map ba).length), w'.cell? ⟨b, j, none⟩ = some (.string ((listN ds).map ba)[j])) ∧ Below w.heap.size w w' := by
  obtain ⟨O1, O2, h1, ⟨a, c, g, h2⟩, hf, h3, h4, h5, h6, hp⟩ := h.out
  obtain ⟨room, fuse, down, S⟩ := ds
  have eL : (if down then [] else S).length = L := by rw [← hL]; cases down <;> simp [listN]
  have eN : namCs (if down then [] else S) = ((listN ⟨room, fuse, down, S⟩).map ba).map .string := by cases down <;> simp [listN, namCs]
  refine (refList_val h2 hf L eL).mono fun e w' ⟨oa, oc, og, e1, e2, e3⟩ => ?_
  rw [eN] at e2
  refine ⟨oa, oc, og.getD 0, e1, fun hp => ?_, fun j hj => ?_, e3⟩
  · obtain ⟨k, rfl, rfl⟩ := e2.at hp
    rfl
  · have hjl : 0 < L := by rw [← hL]; have : j < (listN ⟨room, fuse, down, S⟩).length := by simpa using hj
                           omega
    obtain ⟨k, rfl, rfl⟩ := e2.at hjl
    have := e2.cell j (by simpa using hj)
    rw [Option.getD_some, this]
    simp

section
variable {w0 w : World} {pf : Option Nat} {B : Option Obj} {pd px : Nat} {ds : DS}
theorem d_used (h : Half w0 pf B w pd px ds ds) (n : Nat) (hn : usedN ds = n) :
    Calls Tryz.prog 75 #[.pointer (some ⟨pd, 0, none⟩)] w fun e w' => e = .returned (.int .i64 n) ∧ Below w.heap.size w w' := by
  obtain ⟨O1, O2, h1, ⟨a, c, g, h2⟩, hf, h3, h4, h5, h6, hp⟩ := h.out
  exact used_val h1 n hn
theorem x_used (h : Half w0 pf B w pd px ds ds) (n : Nat) (hn : usedN ds = n) :
    Calls Tryz.prog 76 #[.pointer (some ⟨px, 0, none⟩)] w fun e w' => e = .returned (.int .i64 n) ∧ Below w.heap.size w w' := by
  obtain ⟨O1, O2, h1, ⟨a, c, g, h2⟩, hf, h3, h4, h5, h6, hp⟩ := h.out
  exact (refUsed_val h2 hf n hn).mono fun e w' ⟨e1, e2⟩ => ⟨e1, by rw [e2]; exact Below.refl _ _⟩
theorem d_down (h : Half w0 pf B w pd px ds ds) (v : Bool) (hv : ds.down = v) :
    Calls Tryz.prog 36 #[.pointer (some ⟨pd, 0, none⟩)] w fun e w' => e = .returned (.bool v) ∧ Below w.heap.size w w' := by
  obtain ⟨O1, O2, h1, ⟨a, c, g, h2⟩, hf, h3, h4, h5, h6, hp⟩ := h.out
  exact (down_val h1 v hv).mono fun e w' ⟨e1, e2⟩ => ⟨e1, by rw [e2]; exact Below.refl _ _⟩
theorem x_off (h : Half w0 pf B w pd px ds ds) (v : Bool) (hv : ds.down = v) : w.cell? ⟨px, 3, none⟩ = some (.bool v) := by
  obtain ⟨O1, O2, h1, ⟨a, c, g, h2⟩, hf, h3, h4, h5, h6, hp⟩ := h.out
  rw [← hv]; exact h2.c3
end

end Go.Proofs.YtfmhmokbbkliaaaGreat
