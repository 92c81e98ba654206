/- What a retry cache holds, in plain words: calls and their answers, the oldest first; and what a map tells of it. No program in it. -/
import Derived.Test.YthogpaojdlfjcaaEditM
import Derived.Maps.OwnSet
import Derived.Maps.RangeWalk
import Derived.DeepKeys5
namespace Go.Proofs.Ythogpaojdlfjcaa.Rty
open Go.RowKit Go.Proofs.Ythogpaojdlfjcaa Go.Proofs.Ythogpaojdlfjcaa.Edi
open Go.WideShapes (insert_perm)

/-! ### answers -/
structure Bk where
  i : Int
  g : Int
  l : Int
/-- An answer. -/
structure Ans where
  err : Int
  bk : Bk
  names : List ByteArray
  path : ByteArray
  dir : Bool
  quota : Int
  blocks : List Bk
  writer : Int
  n : Int
def zeroA : Ans := ⟨0, ⟨0, 0, 0⟩, [], ⟨#[]⟩, false, 0, [], 0, 0⟩
/-- Where its lists lie. -/
structure Sls where
  a1 : Option Addr
  c1 : Nat
  a2 : Option Addr
  c2 : Nat
/-- The cells of an answer. -/
def anV (x : Ans) (s : Sls) : Value := .agg #[.int .i64 x.err, .int .i64 x.bk.i, .int .i64 x.bk.g, .int .i64 x.bk.l, .slice s.a1 x.names.length s.c1, .string x.path, .bool x.dir, .int .i64 x.quota, .slice s.a2 x.blocks.length s.c2, .int .i64 x.writer, .int .i64 x.n]

/-! ### what is kept of a call -/
structure Ent where
  ed : Ed
  x : Ans
  s : Sls
  t : Nat
/-- Of which client, with which number. -/
def Ent.is (e : Ent) (c k : Int) : Bool := decide (e.ed.c = c ∧ e.ed.l = k)
theorem is_iff {e : Ent} {c k : Int} : e.is c k = true ↔ e.ed.c = c ∧ e.ed.l = k := by simp [Ent.is]

/-- How a key reads. -/
def kl (c k : Int) : Lit := .string (keyBytes [.int .i64 c, .int .i64 k])
def entV (e : Ent) : Value := .agg #[.string (encS e.ed), .int .i64 e.x.err, .int .i64 e.x.bk.i, .int .i64 e.x.bk.g, .int .i64 e.x.bk.l, .slice e.s.a1 e.x.names.length e.s.c1, .string e.x.path, .bool e.x.dir, .int .i64 e.x.quota, .slice e.s.a2 e.x.blocks.length e.s.c2, .int .i64 e.x.writer, .int .i64 e.x.n, .int .i64 (e.t : Int)]
def entD (e : Ent) : Lit × DataW Value := (kl e.ed.c e.ed.l, .held (entV e))

theorem kl_key (c k : Int) : WideAt.IsKeyLit (kl c k) := trivial

def In64 (z : Int) : Prop := -9223372036854775808 ≤ z ∧ z ≤ 9223372036854775807
theorem in64_wf {z : Int} (h : In64 z) : (Lit.int .i64 z).wf = true := by
  simp only [Lit.wf, Bool.and_eq_true, decide_eq_true_eq]
  have e1 : IntKind.min .i64 = -9223372036854775808 := by decide
  have e2 : IntKind.max .i64 = 9223372036854775807 := by decide
  rw [e1, e2]
  exact h
theorem wf_in64 {z : Int} (h : (Lit.int .i64 z).wf = true) : In64 z := by
  simp only [Lit.wf, Bool.and_eq_true, decide_eq_true_eq] at h
  have e1 : IntKind.min .i64 = -9223372036854775808 := by decide
  have e2 : IntKind.max .i64 = 9223372036854775807 := by decide
  rw [e1, e2] at h
  exact h

/-! ### numbers as bytes -/
theorem bytesLE_inj : ∀ (w a b : Nat), a < 256 ^ w → b < 256 ^ w → bytesLE w a = bytesLE w b → a = b
  | 0, a, b, ha, hb, _ => by simp at ha hb; omega
  | w + 1, a, b, ha, hb, h => by
    simp only [bytesLE, List.cons.injEq] at h
    have h1 : a % 256 = b % 256 := by
      have := congrArg UInt8.toNat h.1
      simpa using this
    have h2 := bytesLE_inj w (a / 256) (b / 256) (by rw [Nat.pow_succ] at ha; omega) (by rw [Nat.pow_succ] at hb; omega) h.2
    omega
theorem bytesLE_len : ∀ (w n : Nat), (bytesLE w n).length = w
  | 0, _ => rfl
  | w + 1, n => by simp [bytesLE, bytesLE_len w]
theorem kl_inj {c k c2 k2 : Int} (h1 : In64 c) (h2 : In64 k) (h3 : In64 c2) (h4 : In64 k2) (h : kl c k = kl c2 k2) : c = c2 ∧ k = k2 := by
  unfold kl at h
  injection h with h
  simp only [keyBytes, List.flatMap_cons, List.flatMap_nil, List.append_nil, Lit.keyBytes, bytesBE] at h
  have e8 : IntKind.bits .i64 = 64 := rfl
  rw [e8] at h
  have hl : ∀ n : Nat, (bytesLE (64 / 8) n).reverse.length = 8 := fun n => by rw [List.length_reverse, bytesLE_len]
  obtain ⟨p1, p2⟩ := List.append_inj h (by rw [hl, hl])
  have q : ∀ {x y : Int}, In64 x → In64 y → (bytesLE (64 / 8) (x % 2 ^ 64).toNat).reverse = (bytesLE (64 / 8) (y % 2 ^ 64).toNat).reverse → x = y := by
    intro x y hx hy hh
    have hh2 := List.reverse_inj.1 hh
    have hx2 : 0 ≤ x % 2 ^ 64 ∧ x % 2 ^ 64 < 2 ^ 64 := ⟨Int.emod_nonneg _ (by decide), Int.emod_lt_of_pos _ (by decide)⟩
    have hy2 : 0 ≤ y % 2 ^ 64 ∧ y % 2 ^ 64 < 2 ^ 64 := ⟨Int.emod_nonneg _ (by decide), Int.emod_lt_of_pos _ (by decide)⟩
    have e := bytesLE_inj 8 _ _ (by omega) (by omega) hh2
    unfold In64 at hx hy
    omega
  exact ⟨q h1 h3 p1, q h2 h4 p2⟩

/-! ### a map that tells of calls -/
/-- The entries are those of S. -/
structure Tells (D : DataW Value) (S : List Ent) : Prop where
  ex : ∃ es, D = .map es ∧ es.Perm (S.map entD)
/-- No two are of one client with one number; all numbers are numbers. -/
structure Good (S : List Ent) : Prop where
  apart : S.Pairwise (fun a b => ¬ (a.ed.c = b.ed.c ∧ a.ed.l = b.ed.l))
  rt : ∀ e ∈ S, Rt e.ed

theorem rt64 {e : Ed} (h : Rt e) : In64 e.c ∧ In64 e.l := ⟨⟨h.fit.c0, h.fit.c1⟩, ⟨h.fit.l0, h.fit.l1⟩⟩
theorem Good.fit {S : List Ent} (h : Good S) : ∀ e ∈ S, In64 e.ed.c ∧ In64 e.ed.l := fun e he => rt64 (h.rt e he)
theorem Good.filter {S : List Ent} (h : Good S) (p : Ent → Bool) : Good (S.filter p) := ⟨h.apart.filter _, fun e he => h.rt e (List.mem_filter.1 he).1⟩
theorem Good.tail {S : List Ent} (h : Good S) : Good S.tail := by
  cases S with
  | nil => exact h
  | cons e r => exact ⟨(List.pairwise_cons.1 h.apart).2, fun x hx => h.rt x (List.mem_cons_of_mem _ hx)⟩

theorem Tells.size {D : DataW Value} {S : List Ent} (h : Tells D S) : Maps.size D = S.length := by
  obtain ⟨es, rfl, hp⟩ := h.ex
  rw [Maps.size_eq, hp.length_eq, List.length_map]
theorem Tells.perm {D : DataW Value} {S S' : List Ent} (h : Tells D S) (hp : S.Perm S') : Tells D S' := by
  obtain ⟨es, rfl, hq⟩ := h.ex
  exact ⟨es, rfl, hq.trans (hp.map _)⟩
theorem tells_nil : Tells (.map []) [] := ⟨[], rfl, List.Perm.nil⟩

/-- The call that is asked for. -/
def look (S : List Ent) (c k : Int) : Option Ent := S.find? fun e => e.is c k
theorem look_mem {S : List Ent} {c k : Int} {e : Ent} (h : look S c k = some e) : e ∈ S ∧ e.ed.c = c ∧ e.ed.l = k :=
  ⟨List.mem_of_find?_eq_some h, is_iff.1 (List.find?_some (p := fun e : Ent => e.is c k) h)⟩
theorem look_none {S : List Ent} {c k : Int} (h : look S c k = none) : ∀ e ∈ S, ¬ (e.ed.c = c ∧ e.ed.l = k) := fun e he hh => by
  have := List.find?_eq_none.1 h e he
  exact this (is_iff.2 hh)
theorem apart_eq : ∀ {S : List Ent}, S.Pairwise (fun a b => ¬ (a.ed.c = b.ed.c ∧ a.ed.l = b.ed.l)) → ∀ {x y : Ent}, x ∈ S → y ∈ S → x.ed.c = y.ed.c ∧ x.ed.l = y.ed.l → x = y
  | [], _, _, _, hx, _, _ => by cases hx
  | a :: r, h, x, y, hx, hy, hh => by
    obtain ⟨h1, h2⟩ := List.pairwise_cons.1 h
    rcases List.mem_cons.1 hx with rfl | hx
    · rcases List.mem_cons.1 hy with rfl | hy
      · rfl
      · exact absurd hh (h1 y hy)
    · rcases List.mem_cons.1 hy with rfl | hy
      · exact absurd ⟨hh.1.symm, hh.2.symm⟩ (h1 x (by assumption))
      · exact apart_eq h2 hx hy hh
theorem one_of {S : List Ent} (h : Good S) {x y : Ent} (hx : x ∈ S) (hy : y ∈ S) (hh : x.ed.c = y.ed.c ∧ x.ed.l = y.ed.l) : x = y := apart_eq h.apart hx hy hh
theorem look_of {S : List Ent} (h : Good S) {e : Ent} (he : e ∈ S) : look S e.ed.c e.ed.l = some e := by
  cases hl : look S e.ed.c e.ed.l with
  | none => exact absurd ⟨rfl, rfl⟩ (look_none hl e he)
  | some f =>
    obtain ⟨h1, h2, h3⟩ := look_mem hl
    rw [one_of h h1 he ⟨h2, h3⟩]

theorem Tells.at {D : DataW Value} {S : List Ent} (h : Tells D S) (hg : Good S) {c k : Int} (hc : In64 c) (hk : In64 k) (z : DataW Value) : D.atKey (kl c k) z = match look S c k with | some e => .held (entV e) | none => z := by
  obtain ⟨es, rfl, hp⟩ := h.ex
  simp only [DataW.atKey]
  cases hf : es.find? (fun p => p.1.sameKey (kl c k)) with
  | none =>
    cases hl : look S c k with
    | none => rfl
    | some e =>
      obtain ⟨h1, h2, h3⟩ := look_mem hl
      have hm : entD e ∈ es := hp.mem_iff.2 (List.mem_map.2 ⟨e, h1, rfl⟩)
      have := List.find?_eq_none.1 hf _ hm
      rw [show (entD e).1 = kl c k by rw [← h2, ← h3]; rfl, WideAt.sameKey_self (kl_key c k)] at this
      exact absurd rfl this
  | some p =>
    have hm := hp.mem_iff.1 (List.mem_of_find?_eq_some hf)
    obtain ⟨e, he, rfl⟩ := List.mem_map.1 hm
    have hs : kl e.ed.c e.ed.l = kl c k := WideAt.sameKey_eq (List.find?_some (p := fun p : Lit × DataW Value => p.1.sameKey (kl c k)) hf)
    obtain ⟨r1, r2⟩ := kl_inj (hg.fit e he).1 (hg.fit e he).2 hc hk hs
    rw [← r1, ← r2, look_of hg he]
    rfl
theorem Tells.has {D : DataW Value} {S : List Ent} (h : Tells D S) (hg : Good S) {c k : Int} (hc : In64 c) (hk : In64 k) : Maps.has D (kl c k) = (look S c k).isSome := by
  cases hl : look S c k with
  | none => exact Maps.has_false_of_atKey (fun z => by rw [h.at hg hc hk, hl])
  | some e => exact Maps.has_true_of_atKey (fun z => by rw [h.at hg hc hk, hl])
/-- Whatever key is there is a call's. -/
theorem Tells.of {D : DataW Value} {S : List Ent} (h : Tells D S) {l : Lit} {d : DataW Value} (ha : ∀ z, D.atKey l z = d) : ∃ e ∈ S, kl e.ed.c e.ed.l = l ∧ d = .held (entV e) := by
  have hh := Maps.has_true_of_atKey ha
  obtain ⟨es, rfl, hp⟩ := h.ex
  have h0 := ha .nil
  obtain ⟨p, hp1, hp2⟩ := List.any_eq_true.1 hh
  cases hf : es.find? (fun p => p.1.sameKey l) with
  | none => exact absurd hp2 (List.find?_eq_none.1 hf p hp1)
  | some q =>
    have hq := h0
    simp only [DataW.atKey] at hq
    rw [hf] at hq
    have hm := hp.mem_iff.1 (List.mem_of_find?_eq_some hf)
    obtain ⟨e, he, rfl⟩ := List.mem_map.1 hm
    exact ⟨e, he, WideAt.sameKey_eq (List.find?_some (p := fun p : Lit × DataW Value => p.1.sameKey l) hf), hq.symm⟩

theorem strike_is {S : List Ent} (hg : Good S) {c k : Int} (hc : In64 c) (hk : In64 k) : (S.map entD).filter (fun p => !p.1.sameKey (kl c k)) = (S.filter fun e => !e.is c k).map entD := by
  rw [List.filter_map]
  congr 1
  apply List.filter_congr
  intro e he
  show (!(entD e).1.sameKey (kl c k)) = _
  congr 1
  cases hs : e.is c k with
  | true =>
    obtain ⟨h1, h2⟩ := is_iff.1 hs
    rw [show (entD e).1 = kl c k by rw [← h1, ← h2]; rfl]
    exact WideAt.sameKey_self (kl_key c k)
  | false =>
    apply Maps.sameKey_ne
    intro e2
    have := kl_inj (hg.fit e he).1 (hg.fit e he).2 hc hk e2
    rw [Bool.eq_false_iff] at hs
    exact hs (is_iff.2 this)

theorem Tells.del {D : DataW Value} {S : List Ent} (h : Tells D S) (hg : Good S) {c k : Int} (hc : In64 c) (hk : In64 k) : Tells (D.del (kl c k)) (S.filter fun e => !e.is c k) := by
  obtain ⟨es, rfl, hp⟩ := h.ex
  refine ⟨_, rfl, ?_⟩
  rw [← strike_is hg hc hk]
  exact hp.filter _
theorem Tells.put {D : DataW Value} {S : List Ent} (h : Tells D S) (hg : Good S) (e : Ent) (hc : In64 e.ed.c) (hk : In64 e.ed.l) : Tells (D.put (kl e.ed.c e.ed.l) (.held (entV e))) ((S.filter fun x => !x.is e.ed.c e.ed.l) ++ [e]) := by
  obtain ⟨es, rfl, hp⟩ := h.ex
  refine ⟨_, rfl, ?_⟩
  refine (insert_perm _ _).trans ?_
  rw [List.map_append, ← strike_is hg hc hk]
  refine List.Perm.trans (List.Perm.cons _ (hp.filter _)) ?_
  exact (List.perm_append_comm (l₁ := [entD e]))
theorem Good.put {S : List Ent} (h : Good S) (e : Ent) (hr : Rt e.ed) : Good ((S.filter fun x => !x.is e.ed.c e.ed.l) ++ [e]) := by
  refine ⟨List.pairwise_append.2 ⟨h.apart.filter _, List.pairwise_singleton _ _, fun a ha b hb => ?_⟩, fun x hx => ?_⟩
  · rw [List.mem_singleton.1 hb]
    have := (List.mem_filter.1 ha).2
    simp only [Bool.not_eq_true'] at this
    intro hh
    rw [is_iff.2 hh] at this
    cases this
  · rcases List.mem_append.1 hx with hx | hx
    · exact h.rt x (List.mem_filter.1 hx).1
    · rw [List.mem_singleton.1 hx]; exact hr

end Go.Proofs.Ythogpaojdlfjcaa.Rty
