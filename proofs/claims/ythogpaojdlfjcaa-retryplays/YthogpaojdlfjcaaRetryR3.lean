/- The reference's cache in memory; the contract of tabulariumref13.at. -/
import Derived.Test.YthogpaojdlfjcaaRetryR2
import Derived.Test.YthogpaojdlfjcaaRetryA
import Derived.Test.YthogpaojdlfjcaaRetryP
namespace Go.Proofs.Ythogpaojdlfjcaa.Rty
open Go.RowKit Go.Proofs.Ythogpaojdlfjcaa Go.Proofs.Ythogpaojdlfjcaa.Edi
set_option linter.unusedVariables false

/-- A call as it lies in the reference's row. -/
structure Rc where
  ed : Ed
  a : Option Addr
  m : Nat
  q : Nat
  x : Ans
  s : Sls
instance : Inhabited Rc := ⟨⟨zeroE, none, 0, 0, zeroA, ⟨none, 0, none, 0⟩⟩⟩
def rcC (r : Rc) : List Value := [.int .i64 r.ed.k, .string r.ed.p, .string r.ed.t, .int .i64 r.ed.c, .int .i64 r.ed.l, .int .i64 r.ed.n, .slice r.a r.m r.q, .int .i64 r.x.err, .int .i64 r.x.bk.i, .int .i64 r.x.bk.g, .int .i64 r.x.bk.l, .slice r.s.a1 r.x.names.length r.s.c1, .string r.x.path, .bool r.x.dir, .int .i64 r.x.quota, .slice r.s.a2 r.x.blocks.length r.s.c2, .int .i64 r.x.writer, .int .i64 r.x.n]
theorem wideR : Wide rcC 18 := ⟨fun _ => rfl, fun x u hu => by simp [rcC] at hu; rcases hu with rfl | rfl | rfl | rfl | rfl | rfl | rfl | rfl | rfl | rfl | rfl | rfl | rfl | rfl | rfl | rfl | rfl | rfl <;> rfl⟩
def absR (r : Rc) : Ed × Ans := (r.ed, r.x)

structure RAt (w0 : World) (O : Nat → Prop) (w : World) (xb : Nat) (R : List Rc) : Prop where
  lt : ∀ k, O k → k < w.heap.size
  oX : O xb
  ex : ∃ a c g, w.cell? ⟨xb, 0, none⟩ = some (.slice a R.length c) ∧ CelO (fun k => O k ∧ k ≠ xb) w 18 (.slice a R.length c) R.length (rowC rcC R) g
  fr : w.frozen? ⟨xb, 0, none⟩ = false
  most : R.length ≤ 21
  each : ∀ r ∈ R, Nm w0 r.a r.m r.ed.ls ∧ AnIn (fun b => b < w0.heap.size) w0 r.x r.s

section
variable {w0 : World} {O O2 : Nat → Prop} {w w' : World} {xb : Nat} {R : List Rc}

theorem RAt.stay (h : RAt w0 O w xb R) (hs : Stay O2 w w') (hd : ∀ k, O k → ¬ O2 k) : RAt w0 O w' xb R := by
  obtain ⟨a, c, g, h1, h2⟩ := h.ex
  have hb := hs.block xb (h.lt xb h.oX) (hd xb h.oX)
  refine ⟨fun k hk => Nat.lt_of_lt_of_le (h.lt k hk) hs.size, h.oX, ⟨a, c, g, (World.cell?_of_block (a := ⟨xb, 0, none⟩) hb).trans h1, h2.stay hs.size (fun k hk => ?_) (fun _ e => e)⟩, (World.frozen?_of_block (a := ⟨xb, 0, none⟩) hb).trans h.fr, h.most, h.each⟩
  rw [hk] at h2
  exact hs.block k h2.lt.1 (hd k h2.lt.2.1)
theorem RAt.below (h : RAt w0 O w xb R) (hb : Below w.heap.size w w') : RAt w0 O w' xb R := h.stay (O2 := fun _ => False) (Stay.of_below hb) (fun _ _ => id)
theorem RAt.wide (h : RAt w0 O w xb R) (hO : ∀ k, O k → O2 k) (hl : ∀ k, O2 k → k < w.heap.size) : RAt w0 O2 w xb R := by
  obtain ⟨a, c, g, h1, h2⟩ := h.ex
  exact ⟨hl, hO _ h.oX, ⟨a, c, g, h1, h2.stay (Nat.le_refl _) (fun _ _ => rfl) (fun k hk => ⟨hO k hk.1, hk.2⟩)⟩, h.fr, h.most, h.each⟩
theorem RAt.grow (h : RAt w0 O w' xb R) : RAt w0 (Grow O w w') w' xb R := h.wide (fun _ e => .inl e) (fun k hk => hk.elim (h.lt k) (fun e => e.2))

/-- The row's cells. -/
theorem RAt.at (h : RAt w0 O w xb R) (hp : 0 < R.length) : ∃ g off c, w.cell? ⟨xb, 0, none⟩ = some (.slice (some ⟨g, off, none⟩) R.length c) ∧ R.length ≤ c ∧ c ≤ maxLen ∧ ∀ i (hi : i < R.length) (j : Nat) (u : Value), (rcC R[i])[j]? = some u → w.cell? ⟨g, off + i * 18 + j, none⟩ = some u := by
  obtain ⟨a, c, g, h1, h2⟩ := h.ex
  have h3 := h2.cap2
  obtain ⟨k, off, rfl, rfl, h4⟩ := h2.at2 hp
  refine ⟨k, off, c, h1, h3.1, h3.2.1, fun i hi j u hu => ?_⟩
  have hj : j < 18 := by have := (List.getElem?_eq_some_iff.1 hu).1; rwa [wideR.len] at this
  have e := rowC_at wideR R i hi j hj
  rw [hu] at e
  obtain ⟨h5, h6⟩ := List.getElem?_eq_some_iff.1 e
  have := h4 _ h5
  rw [h6] at this
  rw [Nat.add_assoc]
  exact this
theorem RAt.any (h : RAt w0 O w xb R) : ∃ a c, w.cell? ⟨xb, 0, none⟩ = some (.slice a R.length c) := by
  obtain ⟨a, c, g, h1, _⟩ := h.ex
  exact ⟨a, c, h1⟩

/-- Where the call stands, or nowhere. -/
def Where (R : List Rc) (c k : Int) (res : Int) : Prop := (∃ i : Nat, ∃ hi : i < R.length, res = (i : Int) ∧ isA c k (absR R[i]) = true ∧ ∀ j (hj : j < R.length), j < i → isA c k (absR R[j]) = false) ∨ (res = -1 ∧ ∀ r ∈ R, isA c k (absR r) = false)
theorem where_ex : ∀ (R : List Rc) (c k : Int), ∃ res, Where R c k res
  | [], c, k => ⟨-1, .inr ⟨rfl, fun r hr => by cases hr⟩⟩
  | r :: R, c, k => by
    cases h : isA c k (absR r) with
    | true => exact ⟨0, .inl ⟨0, by simp, rfl, h, fun j hj h0 => by omega⟩⟩
    | false =>
      obtain ⟨res, h1⟩ := where_ex R c k
      rcases h1 with ⟨i, hi, rfl, h2, h3⟩ | ⟨rfl, h2⟩
      · refine ⟨((i + 1 : Nat) : Int), .inl ⟨i + 1, by simp; omega, rfl, h2, fun j hj hji => ?_⟩⟩
        cases j with
        | zero => exact h
        | succ j => exact h3 j (by simp at hj; omega) (by omega)
      · refine ⟨-1, .inr ⟨rfl, fun x hx => ?_⟩⟩
        rcases List.mem_cons.1 hx with rfl | hx
        · exact h
        · exact h2 x hx
theorem where_look {c k res : Int} (h : Where R c k res) : (∃ i : Nat, ∃ hi : i < R.length, res = (i : Int) ∧ lookA (R.map absR) c k = some (absR R[i])) ∨ (res = -1 ∧ lookA (R.map absR) c k = none) := by
  rcases h with ⟨i, hi, rfl, h1, h2⟩ | ⟨rfl, h1⟩
  · refine .inl ⟨i, hi, rfl, ?_⟩
    have e : R.map absR = (R.take i).map absR ++ absR R[i] :: (R.drop (i + 1)).map absR := by rw [← List.map_cons, ← List.map_append, ← List.drop_eq_getElem_cons hi, List.take_append_drop]
    unfold lookA
    rw [e, List.find?_append, List.find?_eq_none.2, List.find?_cons_of_pos]
    · simp
    · simpa using h1
    · intro p hp
      obtain ⟨r, hr, rfl⟩ := List.mem_map.1 hp
      obtain ⟨j, hj, rfl⟩ := List.mem_iff_getElem.1 hr
      rw [List.length_take] at hj
      rw [List.getElem_take, h2 j (by omega) (by omega)]
      simp
  · refine .inr ⟨rfl, List.find?_eq_none.2 (fun p hp => ?_)⟩
    obtain ⟨r, hr, rfl⟩ := List.mem_map.1 hp
    rw [h1 r hr]; simp

set_option maxRecDepth 100000 in
set_option maxHeartbeats 2000000 in
theorem at_val (h : RAt w0 O w xb R) (c k res : Int) (hr : Where R c k res) :
    Calls Try.prog 19 #[.pointer (some ⟨xb, 0, none⟩), .int .i64 c, .int .i64 k] w fun e w' => e = .returned (.int .i64 res) ∧ w' = w := by
  obtain ⟨a0, c0, hx⟩ := h.any
  have HH : Hid (RAt w0 O w xb R) := h
  have HR : Hid (Where R c k res) := hr
  obtain ⟨n, hn⟩ : ∃ n, R.length = n := ⟨_, rfl⟩
  have hn21 : n ≤ 21 := by rw [← hn]; exact h.most
  rw [hn] at hx
  have HN : Hid (R.length = n) := hn
  clear h hr hn
  go_enter Try.func19, Try.ntmps19
  go_wp2
  go_loopw [7] (fun v wr => ∃ i : Nat, i ≤ n ∧ v = .int .i64 i ∧ wr = w ∧ ∀ j (hj : j < R.length), j < i → isA c k (absR R[j]) = false) (fun v _ => n - (intOf v).toNat)
  case atStart => exact ⟨0, by omega, rfl, rfl, fun j hj h0 => by omega⟩
  case round =>
    obtain ⟨i, hi, rfl, rfl, hall⟩ := hrel
    by_cases hlt : i < n
    · have hiR : i < R.length := by rw [HN.out]; exact hlt
      obtain ⟨g, off, cc, h1, h2, h3, h4⟩ := HH.out.at (by omega)
      rw [HN.out] at h1 h2
      rw [h1] at hx
      simp only [Option.some.injEq, Value.slice.injEq] at hx
      obtain ⟨rfl, _, rfl⟩ := hx
      have q3 := h4 i hiR 3 _ rfl
      have q4 := h4 i hiR 4 _ rfl
      by_cases hkey : isA c k (absR R[i]) = true
      · obtain ⟨e1, e2⟩ := isA_iff.1 hkey
        have e1' : R[i].ed.c = c := e1
        have e2' : R[i].ed.l = k := e2
        rw [e1'] at q3
        rw [e2'] at q4
        have HE : Hid ((i : Int) = res) := by
          rcases HR.out with ⟨i2, hi2, rfl, h5, h6⟩ | ⟨_, h5⟩
          · have : i = i2 := by
              rcases Nat.lt_trichotomy i i2 with h7 | h7 | h7
              · have := h6 i hiR h7; rw [hkey] at this; cases this
              · exact h7
              · have := hall i2 hi2 h7; rw [h5] at this; cases this
            exact congrArg (fun z : Nat => (z : Int)) this
          · have := h5 _ (List.getElem_mem hiR); rw [hkey] at this; cases this
        clear hall h4 hkey e1 e2 e1' e2' HR
        go_wp2
        go_ret
        exact ⟨by rw [← HE.out]; rfl, rfl⟩
      · have HA : Hid (∀ j (hj : j < R.length), j < i + 1 → isA c k (absR R[j]) = false) := fun j hj hji => by
          rcases Nat.lt_or_ge j i with h | h
          · exact hall j hj h
          · obtain rfl : j = i := by omega
            simpa using hkey
        have hne : ¬ (R[i].ed.c = c ∧ R[i].ed.l = k) := fun h => hkey (isA_iff.2 h)
        clear hall h4 hkey
        generalize R[i].ed.c = rc at *
        generalize R[i].ed.l = rl at *
        by_cases hc : rc = c
        · have hcb : (rc == c) = true := by simpa using hc
          have hl : (rl == k) = false := by simpa using fun h => hne ⟨hc, h⟩
          have hl2 : ¬ rl = k := fun h => hne ⟨hc, h⟩
          clear hne
          subst hc
          go_wp2
          go_roundw
          case rel => exact ⟨i + 1, by omega, by go_num, trivial, HA.out⟩
          case measure => simp [intOf]; omega
        · have hcb : (rc == c) = false := by simpa using hc
          clear hne
          go_wp2
          go_roundw
          case rel => exact ⟨i + 1, by omega, by go_num, trivial, HA.out⟩
          case measure => simp [intOf]; omega
    · obtain rfl : i = n := by omega
      have hgd : decide ((i : Int) < (i : Int)) = false := decide_eq_false (by omega)
      have HE : Hid (-1 = res) := by
        rcases HR.out with ⟨i2, hi2, rfl, h5, h6⟩ | ⟨h5, _⟩
        · have := hall i2 hi2 (by rw [← HN.out]; exact hi2); rw [h5] at this; cases this
        · exact h5.symm
      clear hall hlt HR
      go_wp2
      go_ret
      exact ⟨by rw [← HE.out]; rfl, rfl⟩

end

end Go.Proofs.Ythogpaojdlfjcaa.Rty
