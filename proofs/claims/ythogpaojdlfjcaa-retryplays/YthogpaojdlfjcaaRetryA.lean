/- A retry cache as a list of edits and answers; its calls in these words. -/
import Derived.Test.YthogpaojdlfjcaaRetryF4
import Derived.Test.YthogpaojdlfjcaaRetryF5
namespace Go.Proofs.Ythogpaojdlfjcaa.Rty
open Go.RowKit Go.Proofs.Ythogpaojdlfjcaa Go.Proofs.Ythogpaojdlfjcaa.Edi

abbrev CL := List (Ed × Ans)
def isA (c k : Int) (p : Ed × Ans) : Bool := decide (p.1.c = c ∧ p.1.l = k)
theorem isA_iff {p : Ed × Ans} {c k : Int} : isA c k p = true ↔ p.1.c = c ∧ p.1.l = k := by simp [isA]
def lookA (A : CL) (c k : Int) : Option (Ed × Ans) := A.find? (isA c k)
def putA0 (A : CL) (e : Ed) (x : Ans) : CL := (A.filter fun p => !isA e.c e.l p) ++ [(e, x)]
def putA (A : CL) (e : Ed) (x : Ans) : CL := if (putA0 A e x).length > 20 then (putA0 A e x).tail else putA0 A e x
def forA (A : CL) (cl bl : Int) : CL := A.filter fun p => !decide (p.1.c = cl ∧ p.1.l < bl)
open Classical in
noncomputable def getA (A : CL) (c k : Int) (e : Ed) : Option Ans × Int := match lookA A c k with
  | none => (none, 0)
  | some p => if p.1 = e then (some p.2, 0) else (none, 14)
/-- What Put answers, and what is there then. -/
inductive PutE (A : CL) (c k : Int) (e : Ed) (x : Ans) : Int → CL → Prop
  | arg : ¬ Rt e ∨ e.c ≠ c ∨ e.l ≠ k → PutE A c k e x 1 A
  | state (p : Ed × Ans) : Rt e → e.c = c → e.l = k → lookA A c k = some p → p.1 ≠ e → PutE A c k e x 14 A
  | ok : Rt e → e.c = c → e.l = k → (∀ p, lookA A c k = some p → p.1 = e) → PutE A c k e x 0 (putA A e x)
theorem putE_ex (A : CL) (c k : Int) (e : Ed) (x : Ans) : ∃ er A', PutE A c k e x er A' := by
  by_cases h : ¬ Rt e ∨ e.c ≠ c ∨ e.l ≠ k
  · exact ⟨_, _, .arg h⟩
  · simp only [not_or, Classical.not_not, ne_eq] at h
    by_cases h2 : ∃ p, lookA A c k = some p ∧ p.1 ≠ e
    · obtain ⟨p, h3, h4⟩ := h2
      exact ⟨_, _, .state p h.1 h.2.1 h.2.2 h3 h4⟩
    · exact ⟨_, _, .ok h.1 h.2.1 h.2.2 (fun p hp => Classical.byContradiction fun h5 => h2 ⟨p, hp, h5⟩)⟩

def absE (e : Ent) : Ed × Ans := (e.ed, e.x)
theorem abs_look (S : List Ent) (c k : Int) : lookA (S.map absE) c k = (look S c k).map absE := by
  unfold lookA look
  rw [List.find?_map]
  rfl
theorem abs_put0 (S : List Ent) (e : Ent) : (putS S e).map absE = putA0 (S.map absE) e.ed e.x := by
  unfold putS putA0
  rw [List.map_append, List.filter_map]
  rfl
theorem abs_put (S : List Ent) (e : Ent) : (putC S e).map absE = putA (S.map absE) e.ed e.x := by
  have h := abs_put0 S e
  have hl : (putS S e).length = (putA0 (S.map absE) e.ed e.x).length := by rw [← h, List.length_map]
  unfold putC putA
  rw [hl]
  split
  · rw [← h, List.map_tail]
  · exact h
theorem abs_for (S : List Ent) (cl bl : Int) : (S.filter fun e => !goes cl bl e).map absE = forA (S.map absE) cl bl := by
  unfold forA
  rw [List.filter_map]
  rfl
theorem abs_get (S : List Ent) (c k : Int) (e : Ed) : getO S c k e = getA (S.map absE) c k e := by
  unfold getO getA
  rw [abs_look]
  cases look S c k with
  | none => rfl
  | some x => rfl

/-- The cache at cb holds A; t calls have been put. -/
structure CA (O : Nat → Prop) (w : World) (cb : Nat) (A : CL) (t : Nat) : Prop where
  ex : ∃ mb S, CAt O w cb mb S t ∧ S.map absE = A
  le : A.length ≤ 20
theorem CA.stay {O O2 : Nat → Prop} {w w' : World} {cb : Nat} {A : CL} {t : Nat} (h : CA O w cb A t) (hs : Stay O2 w w') (hd : ∀ k, O k → ¬ O2 k) : CA O w' cb A t := by
  obtain ⟨mb, S, h1, h2⟩ := h.ex
  exact ⟨⟨mb, S, h1.stay hs hd, h2⟩, h.le⟩
theorem CA.below {O : Nat → Prop} {w w' : World} {cb : Nat} {A : CL} {t : Nat} (h : CA O w cb A t) (hb : Below w.heap.size w w') : CA O w' cb A t := h.stay (O2 := fun _ => False) (Stay.of_below hb) (fun _ _ => id)
theorem CA.lt {O : Nat → Prop} {w : World} {cb : Nat} {A : CL} {t : Nat} (h : CA O w cb A t) : ∀ k, O k → k < w.heap.size := by
  obtain ⟨mb, S, h1, _⟩ := h.ex
  exact h1.lt
theorem CA.oC {O : Nat → Prop} {w : World} {cb : Nat} {A : CL} {t : Nat} (h : CA O w cb A t) : O cb := by
  obtain ⟨mb, S, h1, _⟩ := h.ex
  exact h1.oC
theorem CA.wide {O O2 : Nat → Prop} {w : World} {cb : Nat} {A : CL} {t : Nat} (h : CA O w cb A t) (hO : ∀ k, O k → O2 k) (hl : ∀ k, O2 k → k < w.heap.size) : CA O2 w cb A t := by
  obtain ⟨mb, S, h1, h2⟩ := h.ex
  exact ⟨⟨mb, S, h1.wide hO hl, h2⟩, h.le⟩
theorem CA.grow {O : Nat → Prop} {w w' : World} {cb : Nat} {A : CL} {t : Nat} (h : CA O w' cb A t) : CA (Grow O w w') w' cb A t := h.wide (fun _ e => .inl e) (fun k hk => hk.elim (h.lt k) (fun e => e.2))
theorem CA.rt {O : Nat → Prop} {w : World} {cb : Nat} {A : CL} {t : Nat} (h : CA O w cb A t) : ∀ p ∈ A, Rt p.1 := by
  obtain ⟨mb, S, h1, rfl⟩ := h.ex
  intro p hp
  obtain ⟨e, he, rfl⟩ := List.mem_map.1 hp
  exact h1.good.rt e he
theorem CA.apart {O : Nat → Prop} {w : World} {cb : Nat} {A : CL} {t : Nat} (h : CA O w cb A t) : A.Pairwise (fun a b => ¬ (a.1.c = b.1.c ∧ a.1.l = b.1.l)) := by
  obtain ⟨mb, S, h1, rfl⟩ := h.ex
  exact List.pairwise_map.2 h1.good.apart

theorem putA_len (A : CL) (e : Ed) (x : Ans) (h : A.length ≤ 20) : (putA A e x).length ≤ 20 := by
  have h1 : (putA0 A e x).length ≤ A.length + 1 := by
    have := List.length_filter_le (fun p => !isA e.c e.l p) A
    simp only [putA0, List.length_append, List.length_singleton]
    omega
  unfold putA
  split
  · rw [List.length_tail]; omega
  · omega

theorem new_abs (w : World) : Calls Try.prog 5 #[] w fun e w' => e = .returned (.pointer (some ⟨w.heap.size + 1, 0, none⟩)) ∧ CA (fun k => k = w.heap.size ∨ k = w.heap.size + 1) w' (w.heap.size + 1) [] 0 ∧ Below w.heap.size w w' :=
  (new_val w).mono fun _ _ ⟨h1, h2, h3⟩ => ⟨h1, ⟨⟨_, [], h2, rfl⟩, by simp⟩, h3⟩
theorem len_abs {O : Nat → Prop} {w : World} {cb : Nat} {A : CL} {t : Nat} (h : CA O w cb A t) (n : Nat) (hn : A.length = n) :
    Calls Try.prog 14 #[.pointer (some ⟨cb, 0, none⟩)] w fun e w' => e = .returned (.int .i64 (n : Int)) ∧ w' = w := by
  obtain ⟨mb, S, h1, rfl⟩ := h.ex
  exact len_val h1 n (by rw [← hn, List.length_map])
theorem get_abs {O : Nat → Prop} {w : World} {cb : Nat} {A : CL} {t : Nat} (h : CA O w cb A t) {e : Ed} {a : Option Addr} {m q : Nat} (hnm : Nm w a m e.ls) {c k : Int} (hc : In64 c) (hk : In64 k) (o : Option Ans) (err : Int) (ho : getA A c k e = (o, err)) :
    Calls Try.prog 9 #[.pointer (some ⟨cb, 0, none⟩), .int .i64 c, .int .i64 k, edV e a m q] w fun e w' => GetR w.heap.size o err e w' ∧ Below w.heap.size w w' := by
  obtain ⟨mb, S, h1, rfl⟩ := h.ex
  exact get_val h1 hnm hc hk o err (by rw [abs_get]; exact ho)
theorem forget_abs {O : Nat → Prop} {w : World} {cb : Nat} {A : CL} {t : Nat} (h : CA O w cb A t) (cl bl : Int) :
    Calls Try.prog 12 #[.pointer (some ⟨cb, 0, none⟩), .int .i64 cl, .int .i64 bl] w fun e w' => e = .returned (.tuple #[]) ∧ CA O w' cb (forA A cl bl) t ∧ Stay O w w' := by
  obtain ⟨mb, S, h1, rfl⟩ := h.ex
  refine (forget_val h1 cl bl).mono fun e w' ⟨h2, h3, h4⟩ => ⟨h2, ⟨⟨mb, _, h3, abs_for S cl bl⟩, ?_⟩, h4⟩
  exact Nat.le_trans (List.length_filter_le _ _) h.le
theorem put_abs {O : Nat → Prop} {w : World} {cb : Nat} {A : CL} {t : Nat} (h : CA O w cb A t) (ht : t ≤ 100000) {e : Ed} {a : Option Addr} {m q : Nat} (hnm : Nm w a m e.ls) {x : Ans} {s : Sls} {O2 : Nat → Prop} (hx : AnIn O2 w x s) (hO2 : ∀ k, O2 k → ¬ k = cb) {c k : Int} {er : Int} {A' : CL} (hp : PutE A c k e x er A') :
    Calls Try.prog 7 #[.pointer (some ⟨cb, 0, none⟩), .int .i64 c, .int .i64 k, edV e a m q, anV x s] w fun y w' => y = .returned (.int .i64 er) ∧ (∃ t', t' ≤ t + 1 ∧ CA (Grow O w w') w' cb A' t') ∧ Stay O w w' := by
  obtain ⟨mb, S, h1, rfl⟩ := h.ex
  cases hp with
  | arg hb => exact (put_arg hnm hb).mono fun y w' ⟨h2, h3⟩ => ⟨h2, ⟨t, by omega, (h.below h3).grow⟩, Stay.of_below h3⟩
  | state p hr hc hk hl hne =>
    subst hc hk
    rw [abs_look] at hl
    cases hf : look S e.c e.l with
    | none => rw [hf] at hl; cases hl
    | some f =>
      rw [hf] at hl
      simp only [Option.map_some, Option.some.injEq] at hl
      subst hl
      exact (put_state h1 hnm hr hf hne).mono fun y w' ⟨h2, h3⟩ => ⟨h2, ⟨t, by omega, (h.below h3).grow⟩, Stay.of_below h3⟩
  | ok hr hc hk hl =>
    subst hc hk
    refine (put_ok h1 ht (by have := h.le; rw [List.length_map] at this; exact this) hnm hr hx hO2 (fun f hf => ?_)).mono fun y w' ⟨h2, h3⟩ => ⟨h2, ⟨t + 1, Nat.le_refl _, ?_⟩, h3.st⟩
    · exact hl (absE f) (by rw [abs_look, hf]; rfl)
    · obtain ⟨s2, h4⟩ := h3.ex
      exact ⟨⟨mb, _, h4, abs_put S _⟩, putA_len _ _ _ h.le⟩

end Go.Proofs.Ythogpaojdlfjcaa.Rty
