/- Part 26 of the proof: PlayF3, PlayF4. -/
import Derived.Test.YtfmhmokbbkliaaaGreatB15
import Derived.Test.YtfmhmokbbkliaaaGreatB25

/- The contracts of tabulariumref04.Delete, Sync, Read, Used. -/
namespace Go.Proofs.YtfmhmokbbkliaaaGreat
open Go.RowKit

/-! ### by place -/
theorem fget_at {S : FS} (hS : Rise S) {i : Nat} (hi : i < S.length) {n : List UInt8} (hn : S[i].1 = n) : fget S n = some S[i].2 :=
  mem_fget hS (by rw [← hn]; exact List.getElem_mem hi)
theorem mid_at {S : FS} {i : Nat} (hi : i < S.length) {n : List UInt8} (hn : S[i].1 = n) : S = S.take i ++ (n, S[i].2) :: S.drop (i + 1) := by
  rw [← hn]; exact cut_at S i hi
theorem fdel_at {S : FS} (hS : Rise S) {i : Nat} (hi : i < S.length) {n : List UInt8} (hn : S[i].1 = n) : fdel S n = S.take i ++ S.drop (i + 1) := by
  have e := mid_at hi hn
  generalize S[i].2 = f at e
  generalize S.take i = A at *
  generalize S.drop (i + 1) = B at *
  rw [e] at hS ⊢
  exact fdel_mid hS
theorem fput_at {S : FS} (hS : Rise S) {i : Nat} (hi : i < S.length) {n : List UInt8} (hn : S[i].1 = n) (f : List UInt8 × Nat) : fput S n f = S.set i (n, f) := by
  have e := mid_at hi hn
  have e2 : S.set i (n, f) = S.take i ++ (n, f) :: S.drop (i + 1) := by rw [List.set_eq_take_append_cons_drop, if_pos hi]
  rw [e2]
  clear e2
  generalize S[i].2 = f0 at e
  generalize S.take i = A at *
  generalize S.drop (i + 1) = B at *
  rw [e] at hS ⊢
  exact fput_mid hS

theorem beg_no {room fuse : Int} {S : FS} (hb : begE ⟨room, fuse, false, S⟩ 0 ≠ 12) (hf : Fit ⟨room, fuse, false, S⟩) : begE ⟨room, fuse, false, S⟩ 0 = 0 ∧ ∃ F, begD ⟨room, fuse, false, S⟩ 0 = ⟨room, F, false, S⟩ ∧ Fit ⟨room, F, false, S⟩ := by
  have hfu : 0 ≤ fuse ∧ fuse < 9223372036854775808 := hf.fu
  unfold begE at hb ⊢
  unfold begD
  by_cases h0 : fuse = 0
  · simp [h0]
    rw [h0] at hf
    exact hf
  · by_cases h1 : fuse = 1
    · simp [h1] at hb
    · simp [h0, h1]
      exact ⟨hf.rise, hf.name, hf.data, hf.most, hf.r0, by show 0 ≤ fuse - 1 ∧ fuse - 1 < _; omega⟩

theorem filCs_set : ∀ (S : FS) (i : Nat) (x : Fl), i < S.length → filCs (S.set i x) = (((filCs S).set (i * 3) (.string (ba x.1))).set (i * 3 + 1) (.string (ba x.2.1))).set (i * 3 + 2) (.int .i64 (x.2.2 : Int))
  | [], _, _, h => by simp at h
  | p :: S, 0, x, _ => rfl
  | p :: S, i + 1, x, h => by
    have := filCs_set S i x (by simpa using h)
    show filC p ++ filCs (S.set i x) = _
    rw [this]
    rw [show (i + 1) * 3 = i * 3 + 3 by omega]
    rfl

theorem list_set_same {α : Type _} {l : List α} {i : Nat} {v : α} (h : l[i]? = some v) : l.set i v = l := by
  apply List.ext_getElem?
  intro j
  by_cases e : i = j
  · subst e
    obtain ⟨h1, h2⟩ := List.getElem?_eq_some_iff.1 h
    rw [List.getElem?_set_self h1, h]
  · rw [List.getElem?_set_ne e]

theorem sync_cells (S : FS) (i : Nat) (hi : i < S.length) (v : Value) : (((filCs S).set (i * 3) (.string (ba S[i].1))).set (i * 3 + 1) (.string (ba S[i].2.1))).set (i * 3 + 2) v = (filCs S).set (i * 3 + 2) v := by
  obtain ⟨h0, h1, _⟩ := filCs_at S i hi
  rw [list_set_same h0, list_set_same h1]

theorem data_cells (S : FS) (i : Nat) (hi : i < S.length) (v : Value) : (((filCs S).set (i * 3) (.string (ba S[i].1))).set (i * 3 + 1) v).set (i * 3 + 2) (.int .i64 (S[i].2.2 : Int)) = (filCs S).set (i * 3 + 1) v := by
  obtain ⟨h0, _, h2⟩ := filCs_at S i hi
  rw [list_set_same h0, list_set_same (i := i * 3 + 2)]
  rw [List.getElem?_set_ne (by omega)]; exact h2

section
variable {O : Nat → Prop} {w : World} {p : Nat} {a : Option Addr} {c : Nat} {g : Option Nat} {ds : DS}

theorem RAt.wide {O2 : Nat → Prop} (h : RAt O w p a c g ds) (hO : ∀ k, O k → O2 k) (hl : ∀ k, O2 k → k < w.heap.size) : RAt O2 w p a c g ds :=
  ⟨hl, hO p h.oP, h.c0, h.c1, h.c2, h.c3, h.f1, h.f2, h.f3, h.cel.stay (Nat.le_refl _) (fun _ _ => rfl) hO, h.ne⟩

theorem RAt.grow (h : RAt O w p a c g ds) (w0 : World) : RAt (Grow O w0 w) w p a c g ds := h.wide (fun _ => .inl) (fun k hk => hk.elim (h.lt k) (fun e => e.2))

theorem RAt.wider {w0 w1 : World} (h : RAt (Grow O w1 w) w p a c g ds) (hs : w0.heap.size ≤ w1.heap.size) (hO : ∀ k, O k → k < w.heap.size) : RAt (Grow O w0 w) w p a c g ds :=
  h.wide (fun _ hk => hk.elim .inl (fun e => .inr ⟨Nat.le_trans hs e.1, e.2⟩)) (fun k hk => hk.elim (hO k) (fun e => e.2))

theorem Cel.put {size : Nat} {sl : Value} {n : Nat} {cs : List Value} {k : Nat} (h : Cel O w size sl n cs (some k)) (j : Nat) (hj : j < cs.length) (v : Value) : Cel O (w.setCell ⟨k, j, none⟩ v) size sl n (cs.set j v) (some k) := by
  cases h with
  | row g cap h1 hl h2 h3 h4 h5 h6 h7 =>
    refine .row k cap h1 (by rw [List.length_set]; exact hl) h2 (by simpa [World.setCell] using h3) h4 h5 (fun i hi => ?_) (fun i hi => ⟨?_, ?_⟩)
    · have hi2 : i < cs.length := by rwa [List.length_set] at hi
      by_cases e : i = j
      · subst e
        rw [World.cell?_setCell_same _ _ _ (h6 i hi2), List.getElem_set_self]
      · rw [cell_setP e (h6 i hi2), List.getElem_set_ne (Ne.symm e)]
    · by_cases e : i = j
      · subst e
        rw [World.cell?_setCell_same _ _ _ (h6 i hj)]; rfl
      · obtain ⟨u, hu⟩ := Option.isSome_iff_exists.1 (h7 i hi).1
        rw [cell_setP e hu]; rfl
    · rw [World.frozen?_setCell]; exact (h7 i hi).2

theorem RAt.live {k : Nat} (h : RAt O w p a c (some k) ds) (j : Nat) (hj : j < ds.S.length * 3) : w.frozen? ⟨k, j, none⟩ = false := by
  have hc := h.cel
  cases hc with
  | row g cap h1 hl h2 h3 h4 h5 h6 h7 => exact (h7 j (by have := Nat.mul_le_mul_right 3 h4; omega)).2

/-- One cell of a file. -/
theorem RAt.setFile {k : Nat} (h : RAt O w p a c (some k) ds) (i j : Nat) (hi : i < ds.S.length) (hj : j < 3) (x : Fl) (v : Value) (hx : filCs (ds.S.set i x) = (filCs ds.S).set (i * 3 + j) v) :
    RAt O (w.setCell ⟨k, i * 3 + j, none⟩ v) p a c (some k) { ds with S := ds.S.set i x } ∧ Stay O w (w.setCell ⟨k, i * 3 + j, none⟩ v) := by
  have hc := h.cel
  have hne : p ≠ k := fun e => h.ne (by rw [e])
  have hb : ∀ w0 : World, (w0.setCell ⟨k, i * 3 + j, none⟩ v).heap[p]? = w0.heap[p]? := fun w0 => Below.heap_setCell _ _ _ _ hne
  have ec : ∀ q, (w.setCell ⟨k, i * 3 + j, none⟩ v).cell? ⟨p, q, none⟩ = w.cell? ⟨p, q, none⟩ := fun q => World.cell?_of_block (a := ⟨p, q, none⟩) (hb w)
  have hl : (ds.S.set i x).length = ds.S.length := List.length_set
  refine ⟨⟨fun q hq => by simpa [World.setCell] using h.lt q hq, h.oP, (ec 0).trans h.c0, ?_, (ec 2).trans h.c2, (ec 3).trans h.c3, by rw [World.frozen?_setCell]; exact h.f1, by rw [World.frozen?_setCell]; exact h.f2, by rw [World.frozen?_setCell]; exact h.f3, ?_, h.ne⟩, Stay.setCell w ⟨k, i * 3 + j, none⟩ v hc.lt.2⟩
  · show _ = some (Value.slice a (ds.S.set i x).length c)
    rw [hl]; exact (ec 1).trans h.c1
  · show Cel O _ 3 (.slice a (ds.S.set i x).length c) (ds.S.set i x).length (filCs (ds.S.set i x)) (some k)
    rw [hl, hx]
    exact hc.put _ (by rw [filCs_len]; omega) v

set_option maxRecDepth 100000 in
set_option maxHeartbeats 1000000 in
theorem refDelete_val (h : RAt O w p a c g ds) (hf : Fit ds) (n : List UInt8) (q : Int) (hq : begE ds (refM ds.S n) = q) {ds' : DS} (hds : doD ds (refM ds.S n) (fun S => fdel S n) = ds') :
    Calls Tryz.prog 139 #[.pointer (some ⟨p, 0, none⟩), .string (ba n)] w fun e w' => e = .returned (.int .i64 q) ∧ (∃ a' c' g', RAt (Grow O w w') w' p a' c' g' ds') ∧ Stay O w w' := by
  have CA : Hid _ := fun (_ : Unit) => refAt_val h hf n
  obtain ⟨room, fuse, down, S⟩ := ds
  have c3 : w.cell? ⟨p, 3, none⟩ = some (.bool down) := h.c3
  cases down with
  | true =>
    have e1 : (12 : Int) = q := by rw [← hq]; unfold begE; simp
    have e2 : (⟨room, fuse, true, S⟩ : DS) = ds' := by rw [← hds]; unfold doD begE begD; simp
    subst e1 e2
    have HF : Hid _ := h.grow w
    clear h hq hds
    go_enter Tryz.func139, Tryz.ntmps139
    go_wp2_with fail
    refine (CA.out ()).mono ?_
    rintro e w1 ⟨Z, rfl, hw1, -⟩
    subst hw1
    clear CA
    go_wp2
    go_ret
    exact ⟨rfl, ⟨_, _, _, HF.out⟩, Stay.refl _ _⟩
  | false =>
    have CB : Hid _ := fun v hv => refBlows_val h hf v hv
    have HR : Hid _ := h
    have hrise := hf.rise
    clear h
    go_enter Tryz.func139, Tryz.ntmps139
    go_wp2_with fail
    refine (CA.out ()).mono ?_
    rintro e w1 ⟨Z, rfl, hw1, hZ⟩
    subst hw1
    clear CA
    rcases hZ with ⟨rfl, hno⟩ | ⟨i, hi, rfl, hn⟩
    · have e5 : refM S n = 5 := by unfold refM; rw [show fget S n = none from hno]; rfl
      have e1 : (5 : Int) = q := by rw [← hq]; show _ = begE _ (refM S n); rw [e5]; unfold begE; simp
      have e2 : (⟨room, fuse, false, S⟩ : DS) = ds' := by rw [← hds]; show _ = doD _ (refM S n) _; rw [e5]; unfold doD begE begD; simp
      subst e1 e2
      clear hq hds CB hno e5
      go_wp2
      go_ret
      exact ⟨rfl, ⟨_, _, _, HR.out.grow _⟩, Stay.refl _ _⟩
    · have e0 : refM S n = 0 := by unfold refM; rw [show fget S n = _ from fget_at hrise hi hn]; rfl
      have hq' : begE ⟨room, fuse, false, S⟩ 0 = q := by rw [← hq]; show _ = begE _ (refM S n); rw [e0]
      have hds' : doD ⟨room, fuse, false, S⟩ 0 (fun S => fdel S n) = ds' := by rw [← hds]; show _ = doD _ (refM S n) _; rw [e0]
      clear hq hds e0
      by_cases hb : begE ⟨room, fuse, false, S⟩ 0 = 12
      · have e1 : (12 : Int) = q := by rw [← hq', hb]
        have e2 : begD ⟨room, fuse, false, S⟩ 0 = ds' := by rw [← hds']; unfold doD; rw [if_neg (by rw [hb]; decide)]
        subst e1
        have HB : Hid _ := hb
        have HE2 : Hid _ := e2
        clear hq' hds' hb e2
        go_wp2_with fail
        refine (CB.out true (decide_eq_true HB.out)).mono ?_
        rintro e w2 ⟨rfl, h2, hs2⟩
        have H2 : Hid _ := h2
        have S2 : Hid _ := hs2
        clear h2 hs2 CB
        go_wp2
        go_ret
        exact ⟨rfl, ⟨_, _, _, by rw [← HE2.out]; exact H2.out.grow _⟩, S2.out⟩
      · obtain ⟨b0, F, hbD, hfit⟩ := beg_no hb hf
        have e1 : (0 : Int) = q := by rw [← hq', b0]
        have e2 : (⟨room, F, false, S.take i ++ S.drop (i + 1)⟩ : DS) = ds' := by
          rw [← hds']; unfold doD; rw [if_pos b0, hbD]; show _ = DS.mk _ _ _ (fdel S n); rw [fdel_at hrise hi hn]
        subst e1
        have HB : Hid _ := hb
        have HE2 : Hid _ := e2
        have HFIT : Hid _ := hfit
        have HBD : Hid _ := hbD
        clear hq' hds' hb e2 b0 hfit hbD
        go_wp2_with fail
        refine (CB.out false (decide_eq_false HB.out)).mono ?_
        rintro e w2 ⟨rfl, h2, hs2⟩
        rw [HBD.out] at h2
        have CO : Hid _ := fun (_ : Unit) => refOut_val h2 HFIT.out i hi
        have S2 : Hid _ := hs2
        clear h2 hs2 CB
        go_wp2_with fail
        refine (CO.out ()).mono ?_
        rintro e w3 ⟨rfl, ⟨a3, c3, g3, h3⟩, hs3⟩
        have H3 : Hid _ := h3
        have S3 : Hid _ := hs3
        clear h3 hs3 CO
        go_wp2
        go_ret
        exact ⟨rfl, ⟨_, _, _, by rw [← HE2.out]; exact H3.out.wider S2.out.size (fun k hk => H3.out.lt k (.inl hk))⟩, S2.out.then_same S3.out⟩

set_option maxRecDepth 100000 in
set_option maxHeartbeats 1000000 in
theorem refSync_val (h : RAt O w p a c g ds) (hf : Fit ds) (n : List UInt8) (q : Int) (hq : begE ds (refM ds.S n) = q) {ds' : DS} (hds : doD ds (refM ds.S n) (fsyn n) = ds') :
    Calls Tryz.prog 140 #[.pointer (some ⟨p, 0, none⟩), .string (ba n)] w fun e w' => e = .returned (.int .i64 q) ∧ (∃ a' c' g', RAt (Grow O w w') w' p a' c' g' ds') ∧ Stay O w w' := by
  have CA : Hid _ := fun (_ : Unit) => refAt_val h hf n
  obtain ⟨room, fuse, down, S⟩ := ds
  have c3 : w.cell? ⟨p, 3, none⟩ = some (.bool down) := h.c3
  cases down with
  | true =>
    have e1 : (12 : Int) = q := by rw [← hq]; unfold begE; simp
    have e2 : (⟨room, fuse, true, S⟩ : DS) = ds' := by rw [← hds]; unfold doD begE begD; simp
    subst e1 e2
    have HF : Hid _ := h.grow w
    clear h hq hds
    go_enter Tryz.func140, Tryz.ntmps140
    go_wp2_with fail
    refine (CA.out ()).mono ?_
    rintro e w1 ⟨Z, rfl, hw1, -⟩
    subst hw1
    clear CA
    go_wp2
    go_ret
    exact ⟨rfl, ⟨_, _, _, HF.out⟩, Stay.refl _ _⟩
  | false =>
    have CB : Hid _ := fun v hv => refBlows_val h hf v hv
    have HR : Hid _ := h
    have hrise := hf.rise
    clear h
    go_enter Tryz.func140, Tryz.ntmps140
    go_wp2_with fail
    refine (CA.out ()).mono ?_
    rintro e w1 ⟨Z, rfl, hw1, hZ⟩
    subst hw1
    clear CA
    rcases hZ with ⟨rfl, hno⟩ | ⟨i, hi, rfl, hn⟩
    · have e5 : refM S n = 5 := by unfold refM; rw [show fget S n = none from hno]; rfl
      have e1 : (5 : Int) = q := by rw [← hq]; show _ = begE _ (refM S n); rw [e5]; unfold begE; simp
      have e2 : (⟨room, fuse, false, S⟩ : DS) = ds' := by rw [← hds]; show _ = doD _ (refM S n) _; rw [e5]; unfold doD begE begD; simp
      subst e1 e2
      clear hq hds CB hno e5
      go_wp2
      go_ret
      exact ⟨rfl, ⟨_, _, _, HR.out.grow _⟩, Stay.refl _ _⟩
    · have e0 : refM S n = 0 := by unfold refM; rw [show fget S n = _ from fget_at hrise hi hn]; rfl
      have hq' : begE ⟨room, fuse, false, S⟩ 0 = q := by rw [← hq]; show _ = begE _ (refM S n); rw [e0]
      have hds' : doD ⟨room, fuse, false, S⟩ 0 (fsyn n) = ds' := by rw [← hds]; show _ = doD _ (refM S n) _; rw [e0]
      clear hq hds e0
      by_cases hb : begE ⟨room, fuse, false, S⟩ 0 = 12
      · have e1 : (12 : Int) = q := by rw [← hq', hb]
        have e2 : begD ⟨room, fuse, false, S⟩ 0 = ds' := by rw [← hds']; unfold doD; rw [if_neg (by rw [hb]; decide)]
        subst e1
        have HB : Hid _ := hb
        have HE2 : Hid _ := e2
        clear hq' hds' hb e2
        go_wp2_with fail
        refine (CB.out true (decide_eq_true HB.out)).mono ?_
        rintro e w2 ⟨rfl, h2, hs2⟩
        have H2 : Hid _ := h2
        have S2 : Hid _ := hs2
        clear h2 hs2 CB
        go_wp2
        go_ret
        exact ⟨rfl, ⟨_, _, _, by rw [← HE2.out]; exact H2.out.grow _⟩, S2.out⟩
      · obtain ⟨b0, F, hbD, hfit⟩ := beg_no hb hf
        have e1 : (0 : Int) = q := by rw [← hq', b0]
        have e2 : (⟨room, F, false, S.set i (n, S[i].2.1, S[i].2.1.length)⟩ : DS) = ds' := by
          rw [← hds']; unfold doD; rw [if_pos b0, hbD]; show _ = DS.mk _ _ _ (fsyn n S); unfold fsyn; rw [show fget S n = _ from fget_at hrise hi hn]; show _ = DS.mk _ _ _ (fput S n _); rw [fput_at hrise hi hn]
        subst e1
        have HB : Hid _ := hb
        have HE2 : Hid _ := e2
        have HFIT : Hid _ := hfit
        have HBD : Hid _ := hbD
        clear hq' hds' hb e2 b0 hfit hbD
        go_wp2_with fail
        refine (CB.out false (decide_eq_false HB.out)).mono ?_
        rintro e w2 ⟨rfl, h2, hs2⟩
        rw [HBD.out] at h2
        obtain ⟨k, rfl, rfl, q0, q1, q2⟩ := h2.file hi
        have hsf := h2.setFile i 2 hi (by omega) (n, S[i].2.1, S[i].2.1.length) (.int .i64 (S[i].2.1.length : Int)) (by rw [filCs_set _ _ _ hi]; rw [show n = S[i].1 from hn.symm]; exact sync_cells S i hi _)
        have d1 : w2.cell? ⟨p, 1, none⟩ = some (.slice (some ⟨k, 0, none⟩) S.length c) := h2.c1
        have lv := h2.live (i * 3 + 2) (by show _ < S.length * 3; omega)
        have HS : Hid _ := hsf
        have S2 : Hid _ := hs2
        have hlS : S.length ≤ 20 := HFIT.out.most
        have hld : S[i].2.1.length ≤ 400000 := (HFIT.out.data _ (List.getElem_mem hi)).1
        clear hsf h2 hs2 CB
        have hi' : i < S.length := hi
        have q0' : w2.cell? ⟨k, i * 3, none⟩ = some (.string (ba S[i].1)) := q0
        have q1' : w2.cell? ⟨k, i * 3 + 1, none⟩ = some (.string (ba S[i].2.1)) := q1
        have q2' : w2.cell? ⟨k, i * 3 + 2, none⟩ = some (.int .i64 (S[i].2.2 : Int)) := q2
        have hbs : (ba S[i].2.1).size = S[i].2.1.length := ba_size _
        clear q0 q1 q2 q0' hrise
        go_wp2
        go_region
        go_wp2
        go_ret
        exact ⟨rfl, ⟨_, _, _, by rw [← HE2.out]; exact (HS.out.1.below ((Below.refl _ _).drew)).grow _⟩, (S2.out.then_same HS.out.2).drew⟩

set_option maxRecDepth 100000 in
set_option maxHeartbeats 1000000 in
theorem refRead_val (h : RAt O w p a c g ds) (hf : Fit ds) (n : List UInt8) (t : ByteArray) (q : Int) (ht : rdT ds n = t) (hq : rdE ds n = q) :
    Calls Tryz.prog 59 #[.pointer (some ⟨p, 0, none⟩), .string (ba n)] w fun e w' => e = .returned (.tuple #[.string t, .int .i64 q]) ∧ w' = w := by
  have CA : Hid _ := fun (_ : Unit) => refAt_val h hf n
  obtain ⟨room, fuse, down, S⟩ := ds
  have c3 : w.cell? ⟨p, 3, none⟩ = some (.bool down) := h.c3
  cases down with
  | true =>
    simp only [rdT, rdE, if_true] at ht hq
    subst ht hq
    clear h
    go_enter Tryz.func59, Tryz.ntmps59
    go_wp2_with fail
    refine (CA.out ()).mono ?_
    rintro e w1 ⟨Z, rfl, hw1, -⟩
    subst hw1
    clear CA
    go_wp2
    go_ret2
    exact ⟨rfl, rfl⟩
  | false =>
    simp only [rdT, rdE, Bool.false_eq_true, if_false] at ht hq
    have HR : Hid _ := h
    have hrise := hf.rise
    have hm : S.length ≤ 20 := hf.most
    clear h
    go_enter Tryz.func59, Tryz.ntmps59
    go_wp2_with fail
    refine (CA.out ()).mono ?_
    rintro e w1 ⟨Z, rfl, hw1, hZ⟩
    subst hw1
    clear CA
    rcases hZ with ⟨rfl, hno⟩ | ⟨i, hi, rfl, hn⟩
    · have e5 : (5 : Int) = q := by rw [← hq]; unfold refM; rw [show fget S n = none from hno]; rfl
      have et : (⟨#[]⟩ : ByteArray) = t := by rw [← ht]; unfold fdat; rw [show fget S n = none from hno]
      subst e5 et
      clear ht hq hno
      go_wp2
      go_ret2
      exact ⟨rfl, rfl⟩
    · have hg := fget_at hrise hi hn
      have e5 : (0 : Int) = q := by rw [← hq]; unfold refM; rw [show fget S n = _ from hg]; rfl
      have et : ba S[i].2.1 = t := by rw [← ht]; unfold fdat; rw [show fget S n = _ from hg]; rfl
      obtain ⟨k, rfl, rfl, q0, q1, q2⟩ := HR.out.file hi
      have q1' : w1.cell? ⟨k, i * 3 + 1, none⟩ = some (.string (ba S[i].2.1)) := q1
      have hi' : i < S.length := hi
      have d1 : w1.cell? ⟨p, 1, none⟩ = some (.slice (some ⟨k, 0, none⟩) S.length c) := HR.out.c1
      rw [et] at q1'
      subst e5
      clear ht hq hg et q0 q1 q2 hrise
      go_wp2
      go_ret2
      exact ⟨rfl, rfl⟩

set_option maxRecDepth 100000 in
set_option maxHeartbeats 1000000 in
theorem refUsed_val (h : RAt O w p a c g ds) (hf : Fit ds) (n : Nat) (hn : usedN ds = n) :
    Calls Tryz.prog 76 #[.pointer (some ⟨p, 0, none⟩)] w fun e w' => e = .returned (.int .i64 (n : Int)) ∧ w' = w := by
  have CB : Hid _ := fun T hT => refBytes_val h hf T hT
  obtain ⟨room, fuse, down, S⟩ := ds
  have c3 : w.cell? ⟨p, 3, none⟩ = some (.bool down) := h.c3
  cases down with
  | true =>
    have e : 0 = n := by rw [← hn]; rfl
    subst e
    clear h CB hn
    go_enter Tryz.func76, Tryz.ntmps76
    go_wp2
    go_ret
    exact ⟨rfl, rfl⟩
  | false =>
    have C : Hid _ := fun (_ : Unit) => CB.out n (by rw [← hn]; rfl)
    clear h CB hn
    go_enter Tryz.func76, Tryz.ntmps76
    go_wp2_with fail
    refine (C.out ()).mono ?_
    rintro e w1 ⟨rfl, hw1⟩
    subst hw1
    go_wp2
    go_ret
    exact ⟨rfl, rfl⟩

end

end Go.Proofs.YtfmhmokbbkliaaaGreat

/- The contract of tabulariumref04.Append. -/
namespace Go.Proofs.YtfmhmokbbkliaaaGreat
open Go.RowKit

theorem ba_add (a b : List UInt8) : ba a ++ ba b = ba (a ++ b) := by
  apply ByteArray.ext
  simp [ba]

theorem no_beg (room fuse : Int) (S : FS) {E : Int} (hE : E ≠ 0) (f : FS → FS) : begE ⟨room, fuse, false, S⟩ E = E ∧ doD ⟨room, fuse, false, S⟩ E f = ⟨room, fuse, false, S⟩ := by
  constructor
  · unfold begE; simp [hE]
  · unfold doD begE begD; simp [hE]

theorem run_store_str (w : World) (a : Addr) (x : ByteArray) (m : Mode) : (store a (.string x) m).run Tryz.prog w = stored Tryz.prog w a (.string x) m := run_store Tryz.prog w a _ m rfl

section
variable {O : Nat → Prop} {w : World} {p : Nat} {a : Option Addr} {c : Nat} {g : Option Nat} {ds : DS}

set_option maxRecDepth 100000 in
set_option maxHeartbeats 2000000 in
theorem refAppend_val (h : RAt O w p a c g ds) (hf : Fit ds) (n d : List UInt8) (hnm : n.length ≤ maxLen) (hd : d.length ≤ 140737488355328) (q : Int) (hq : begE ds (refA ds n d) = q) {ds' : DS} (hds : doD ds (refA ds n d) (fapp n d) = ds') :
    Calls Tryz.prog 34 #[.pointer (some ⟨p, 0, none⟩), .string (ba n), .string (ba d)] w fun e w' => e = .returned (.int .i64 q) ∧ (∃ a' c' g', RAt (Grow O w w') w' p a' c' g' ds') ∧ Stay O w w' := by
  have CA : Hid _ := fun (_ : Unit) => refAt_val h hf n
  obtain ⟨ok, hok⟩ : ∃ ok, nameOk n = ok := ⟨_, rfl⟩
  have CN : Hid _ := fun w => refName_val n ok w hnm hok
  obtain ⟨room, fuse, down, S⟩ := ds
  have c3 : w.cell? ⟨p, 3, none⟩ = some (.bool down) := h.c3
  cases down with
  | true =>
    have e1 : (12 : Int) = q := by rw [← hq]; unfold begE; simp
    have e2 : (⟨room, fuse, true, S⟩ : DS) = ds' := by rw [← hds]; unfold doD begE begD; simp
    subst e1 e2
    have HF : Hid _ := h.grow w
    clear h hq hds
    go_enter Tryz.func34, Tryz.ntmps34
    go_wp2_with fail
    refine (CA.out ()).mono ?_
    rintro e w1 ⟨Z, rfl, hw1, -⟩
    subst hw1
    go_wp2_with fail
    refine (CN.out _).mono ?_
    rintro e w2 ⟨rfl, hw2⟩
    subst hw2
    clear CA CN
    go_wp2
    go_ret
    exact ⟨rfl, ⟨_, _, _, HF.out⟩, Stay.refl _ _⟩
  | false =>
    have CB : Hid _ := fun v hv => refBlows_val h hf v hv
    have HR : Hid _ := h
    have HF : Hid _ := hf
    have HO : Hid _ := hok
    have HQ : Hid _ := hq
    have HDS : Hid _ := hds
    have hm : S.length ≤ 20 := hf.most
    have hr0 : 0 ≤ room ∧ room < 9223372036854775808 := hf.r0
    obtain ⟨hr1, hr2⟩ := hr0
    obtain ⟨T, hT⟩ : ∃ T, tot S = T := ⟨_, rfl⟩
    have hT8 : T ≤ 8000000 := by rw [← hT]; exact hf.tot8
    have CT : Hid _ := fun k => refBytes_val (h.below (below_drewN (Below.refl _ w) k)) hf T hT
    have c0 : w.cell? ⟨p, 0, none⟩ = some (.int .i64 room) := h.c0
    have c1 : w.cell? ⟨p, 1, none⟩ = some (.slice a S.length c) := h.c1
    obtain ⟨Dl, hDl⟩ : ∃ k, d.length = k := ⟨_, rfl⟩
    have hDz : (ba d).size = Dl := by rw [ba_size]; exact hDl
    rw [hDl] at hd
    clear h hok hq hds hf
    go_enter Tryz.func34, Tryz.ntmps34
    go_wp2_with fail
    refine (CA.out ()).mono ?_
    rintro e w1 ⟨Z, rfl, hw1, hZ⟩
    subst hw1
    go_wp2_with fail
    refine (CN.out _).mono ?_
    rintro e w2 ⟨rfl, hw2⟩
    subst hw2
    clear CA CN
    cases ok with
    | false =>
      have eA : refA ⟨room, fuse, false, S⟩ n d = 1 := by unfold refA; rw [HO.out]; rfl
      have e1 : (1 : Int) = q := by rw [← HQ.out, eA, (no_beg _ _ _ (by decide) id).1]
      have e2 : (⟨room, fuse, false, S⟩ : DS) = ds' := by rw [← HDS.out, eA, (no_beg _ _ _ (by decide) _).2]
      subst e1 e2
      clear HQ HDS eA hZ CB CT
      go_wp2
      go_ret
      exact ⟨rfl, ⟨_, _, _, HR.out.grow _⟩, Stay.refl _ _⟩
    | true =>
      rcases hZ with ⟨rfl, hno⟩ | ⟨i, hi, rfl, hn⟩
      · have hfg : fget S n = none := hno
        have rA : refA ⟨room, fuse, false, S⟩ n d = (if 400000 < Dl then 4 else if 20 ≤ S.length then 4 else if room < ((T + Dl : Nat) : Int) then 8 else 0) := by
          unfold refA; rw [HO.out]; simp [hfg, flen, hDl, hT]
        have HG : Hid _ := hfg
        clear hno hfg
        by_cases h1 : 400000 < Dl
        · have eA := rA.trans (if_pos h1)
          clear rA CT
          have e1 : (4 : Int) = q := by rw [← HQ.out, eA, (no_beg _ _ _ (by decide) id).1]
          have e2 : (⟨room, fuse, false, S⟩ : DS) = ds' := by rw [← HDS.out, eA, (no_beg _ _ _ (by decide) _).2]
          subst e1 e2
          clear HQ HDS eA CB
          go_wp2
          go_ret
          exact ⟨rfl, ⟨_, _, _, HR.out.grow _⟩, Stay.refl _ _⟩
        · have rA2 := rA.trans (if_neg h1)
          clear rA
          by_cases h2 : 20 ≤ S.length
          · have eA := rA2.trans (if_pos h2)
            clear rA2 CT
            have e1 : (4 : Int) = q := by rw [← HQ.out, eA, (no_beg _ _ _ (by decide) id).1]
            have e2 : (⟨room, fuse, false, S⟩ : DS) = ds' := by rw [← HDS.out, eA, (no_beg _ _ _ (by decide) _).2]
            subst e1 e2
            clear HQ HDS eA CB
            go_wp2
            go_ret
            exact ⟨rfl, ⟨_, _, _, HR.out.grow _⟩, Stay.refl _ _⟩
          · have rA3 := rA2.trans (if_neg h2)
            clear rA2
            by_cases h3 : room < ((T + Dl : Nat) : Int)
            · have eA := rA3.trans (if_pos h3)
              clear rA3
              have e1 : (8 : Int) = q := by rw [← HQ.out, eA, (no_beg _ _ _ (by decide) id).1]
              have e2 : (⟨room, fuse, false, S⟩ : DS) = ds' := by rw [← HDS.out, eA, (no_beg _ _ _ (by decide) _).2]
              subst e1 e2
              clear HQ HDS eA CB
              go_wp2
              go_quiet ((go_at_call 82; exact Calls.quiet_of_same (CT.out _)))
              go_wp2
              go_ret
              exact ⟨rfl, ⟨_, _, _, (HR.out.below (below_drewN (Below.refl _ _) _)).grow _⟩, Stay.of_below (below_drewN (Below.refl _ _) _)⟩
            · have eA := rA3.trans (if_neg h3)
              clear rA3
              go_wp2
              go_quiet ((go_at_call 82; exact Calls.quiet_of_same (CT.out _)))
              obtain ⟨W, hW⟩ : ∃ W, w2.drewN nq = W := ⟨_, rfl⟩
              rw [hW]
              have hbW : Below w2.heap.size w2 W := by rw [← hW]; exact below_drewN (Below.refl _ w2) nq
              have hRW := HR.out.below hbW
              have hSW : Stay O w2 W := Stay.of_below hbW
              have CBW : Hid _ := fun v hv => refBlows_val hRW HF.out v hv
              have SW : Hid _ := hSW
              have c3W := hRW.c3
              clear hW hbW hRW hSW CT CB c0 c1 c3
              by_cases hb : begE ⟨room, fuse, false, S⟩ 0 = 12
              · have e1 : (12 : Int) = q := by rw [← HQ.out, eA, hb]
                have e2 : begD ⟨room, fuse, false, S⟩ 0 = ds' := by rw [← HDS.out, eA]; unfold doD; rw [if_neg (by rw [hb]; decide)]
                subst e1
                have HB : Hid _ := hb
                have HE2 : Hid _ := e2
                clear HQ HDS hb e2 eA
                go_wp2_with fail
                refine (CBW.out true (decide_eq_true HB.out)).mono ?_
                rintro e w3 ⟨rfl, h3, hs3⟩
                have H3 : Hid _ := h3
                have S3 : Hid _ := hs3
                clear h3 hs3 CBW
                go_wp2
                go_ret
                exact ⟨rfl, ⟨_, _, _, by rw [← HE2.out]; exact H3.out.grow _⟩, SW.out.then_same S3.out⟩
              · obtain ⟨b0, F, hbD, hfit⟩ := beg_no hb HF.out
                have e1 : (0 : Int) = q := by rw [← HQ.out, eA, b0]
                have e2 : (⟨room, F, false, fins (n, d, 0) S⟩ : DS) = ds' := by
                  rw [← HDS.out, eA]; unfold doD; rw [if_pos b0, hbD]; show _ = DS.mk _ _ _ (fapp n d S); unfold fapp fput; rw [HG.out]; show _ = DS.mk _ _ _ (fins _ (fdel S n)); rw [fdel_of_none HG.out]
                subst e1
                have HB : Hid _ := hb
                have HE2 : Hid _ := e2
                have HFIT : Hid _ := hfit
                have HBD : Hid _ := hbD
                clear HQ HDS hb e2 eA b0 hfit hbD
                go_wp2_with fail
                refine (CBW.out false (decide_eq_false HB.out)).mono ?_
                rintro e w3 ⟨rfl, h3, hs3⟩
                rw [HBD.out] at h3
                have CO : Hid _ := fun (_ : Unit) => refPut_val h3 HFIT.out (n, d, 0) HG.out
                have S3 : Hid _ := hs3
                clear h3 hs3 CBW
                go_wp2_with fail
                refine (CO.out ()).mono ?_
                rintro e w4 ⟨rfl, ⟨a4, c4, g4, h4⟩, hs4⟩
                have H4 : Hid _ := h4
                have S4 : Hid _ := hs4
                clear h4 hs4 CO
                go_wp2
                go_ret
                exact ⟨rfl, ⟨_, _, _, by rw [← HE2.out]; exact H4.out.wider (SW.out.then_same S3.out).size (fun k hk => H4.out.lt k (.inl hk))⟩, (SW.out.then_same S3.out).then_same S4.out⟩
      · have hfg : fget S n = some S[i].2 := fget_at HF.out.rise hi hn
        have hiS : i < S.length := hi
        obtain ⟨k, rfl, rfl, q0, q1, q2⟩ := HR.out.file hi
        have q1' : w2.cell? ⟨k, i * 3 + 1, none⟩ = some (.string (ba S[i].2.1)) := q1
        obtain ⟨L, hL⟩ : ∃ L, S[i].2.1.length = L := ⟨_, rfl⟩
        have hL4 : L ≤ 400000 := by rw [← hL]; exact (HF.out.data _ (List.getElem_mem hi)).1
        have hLz : (ba S[i].2.1).size = L := by rw [ba_size]; exact hL
        have rA : refA ⟨room, fuse, false, S⟩ n d = (if 400000 < L + Dl then 4 else if room < ((T + Dl : Nat) : Int) then 8 else 0) := by
          unfold refA; rw [HO.out]; simp [hfg, flen, hDl, hT, hL]
        have HG : Hid _ := hfg
        clear hfg q0 q1 q2
        by_cases h1 : 400000 < Dl
        · have eA := rA.trans (if_pos (by omega))
          clear rA CT
          have e1 : (4 : Int) = q := by rw [← HQ.out, eA, (no_beg _ _ _ (by decide) id).1]
          have e2 : (⟨room, fuse, false, S⟩ : DS) = ds' := by rw [← HDS.out, eA, (no_beg _ _ _ (by decide) _).2]
          subst e1 e2
          clear HQ HDS eA CB
          go_wp2
          go_ret
          exact ⟨rfl, ⟨_, _, _, HR.out.grow _⟩, Stay.refl _ _⟩
        · by_cases h2 : 400000 < L + Dl
          · have eA := rA.trans (if_pos h2)
            clear rA CT
            have e1 : (4 : Int) = q := by rw [← HQ.out, eA, (no_beg _ _ _ (by decide) id).1]
            have e2 : (⟨room, fuse, false, S⟩ : DS) = ds' := by rw [← HDS.out, eA, (no_beg _ _ _ (by decide) _).2]
            subst e1 e2
            clear HQ HDS eA CB
            go_wp2
            go_ret
            exact ⟨rfl, ⟨_, _, _, HR.out.grow _⟩, Stay.refl _ _⟩
          · have rA3 := rA.trans (if_neg h2)
            clear rA
            by_cases h3 : room < ((T + Dl : Nat) : Int)
            · have eA := rA3.trans (if_pos h3)
              clear rA3
              have e1 : (8 : Int) = q := by rw [← HQ.out, eA, (no_beg _ _ _ (by decide) id).1]
              have e2 : (⟨room, fuse, false, S⟩ : DS) = ds' := by rw [← HDS.out, eA, (no_beg _ _ _ (by decide) _).2]
              subst e1 e2
              clear HQ HDS eA CB
              go_wp2
              go_quiet ((go_at_call 82; exact Calls.quiet_of_same (CT.out _)))
              go_wp2
              go_ret
              exact ⟨rfl, ⟨_, _, _, (HR.out.below (below_drewN (Below.refl _ _) _)).grow _⟩, Stay.of_below (below_drewN (Below.refl _ _) _)⟩
            · have eA := rA3.trans (if_neg h3)
              clear rA3
              go_wp2
              go_quiet ((go_at_call 82; exact Calls.quiet_of_same (CT.out _)))
              obtain ⟨W, hW⟩ : ∃ W, w2.drewN nq = W := ⟨_, rfl⟩
              rw [hW]
              have hbW : Below w2.heap.size w2 W := by rw [← hW]; exact below_drewN (Below.refl _ w2) nq
              have hRW := HR.out.below hbW
              have hSW : Stay O w2 W := Stay.of_below hbW
              have CBW : Hid _ := fun v hv => refBlows_val hRW HF.out v hv
              have SW : Hid _ := hSW
              have c3W := hRW.c3
              clear hW hbW hRW hSW CT CB c0 c1 c3
              by_cases hb : begE ⟨room, fuse, false, S⟩ 0 = 12
              · have e1 : (12 : Int) = q := by rw [← HQ.out, eA, hb]
                have e2 : begD ⟨room, fuse, false, S⟩ 0 = ds' := by rw [← HDS.out, eA]; unfold doD; rw [if_neg (by rw [hb]; decide)]
                subst e1
                have HB : Hid _ := hb
                have HE2 : Hid _ := e2
                clear HQ HDS hb e2 eA
                go_wp2_with fail
                refine (CBW.out true (decide_eq_true HB.out)).mono ?_
                rintro e w3 ⟨rfl, h3, hs3⟩
                have H3 : Hid _ := h3
                have S3 : Hid _ := hs3
                clear h3 hs3 CBW
                go_wp2
                go_ret
                exact ⟨rfl, ⟨_, _, _, by rw [← HE2.out]; exact H3.out.grow _⟩, SW.out.then_same S3.out⟩
              · obtain ⟨b0, F, hbD, hfit⟩ := beg_no hb HF.out
                have e1 : (0 : Int) = q := by rw [← HQ.out, eA, b0]
                have e2 : (⟨room, F, false, S.set i (n, S[i].2.1 ++ d, S[i].2.2)⟩ : DS) = ds' := by
                  rw [← HDS.out, eA]; unfold doD; rw [if_pos b0, hbD]; show _ = DS.mk _ _ _ (fapp n d S); unfold fapp; rw [HG.out]; show _ = DS.mk _ _ _ (fput S n _); rw [fput_at HF.out.rise hi hn]
                subst e1
                have HB : Hid _ := hb
                have HE2 : Hid _ := e2
                have HFIT : Hid _ := hfit
                have HBD : Hid _ := hbD
                clear HQ HDS hb e2 eA b0 hfit hbD
                go_wp2_with fail
                refine (CBW.out false (decide_eq_false HB.out)).mono ?_
                rintro e w3 ⟨rfl, h3, hs3⟩
                rw [HBD.out] at h3
                obtain ⟨k2, hk2a, hk2b, r0, r1, r2⟩ := h3.file hi
                cases hk2a
                have hsf := h3.setFile i 1 hi (by omega) (n, S[i].2.1 ++ d, S[i].2.2) (.string (ba (S[i].2.1 ++ d))) (by rw [filCs_set _ _ _ hi]; rw [show n = S[i].1 from hn.symm]; exact data_cells S i hi _)
                have d1 : w3.cell? ⟨p, 1, none⟩ = some (.slice (some ⟨k, 0, none⟩) S.length c) := h3.c1
                have lv := h3.live (i * 3 + 1) (by show _ < S.length * 3; omega)
                have r1' : w3.cell? ⟨k, i * 3 + 1, none⟩ = some (.string (ba S[i].2.1)) := r1
                have HS : Hid _ := hsf
                have S3 : Hid _ := hs3
                have hX : ∀ w : World, (Op.stringOp .add (ba S[i].2.1) (ba d)).run Tryz.prog w = .ok (.string (ba (S[i].2.1 ++ d))) w := fun w => by
                  rw [← ba_add]; exact run_string_add_sum (P := Tryz.prog) w _ _ (by rw [ba_size, ba_size]; omega)
                clear hsf h3 hs3 CBW r0 r1 r2 hk2b
                have hst := run_store_str
                generalize ba (S[i].2.1 ++ d) = X2 at *
                generalize ba S[i].2.1 = X1 at *
                generalize ba d = X3 at *
                go_wp2
                go_region
                go_wp2
                go_ret
                exact ⟨rfl, ⟨_, _, _, by rw [← HE2.out]; exact (HS.out.1.below ((Below.refl _ _).drew)).grow _⟩, ((SW.out.then_same S3.out).then_same HS.out.2).drew⟩

end

end Go.Proofs.YtfmhmokbbkliaaaGreat
