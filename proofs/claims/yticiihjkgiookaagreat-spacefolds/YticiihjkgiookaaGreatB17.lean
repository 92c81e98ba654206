/- Part 17 of the proof: SpaceM, SpaceP, SpaceQ, SpaceEx, SpaceLw, SpaceLr. -/
import Derived.Test.YticiihjkgiookaaGreatB12
import Derived.Test.YticiihjkgiookaaGreatB13
import Derived.Test.YticiihjkgiookaaGreatB16

/- Spaces, and what an edit makes of one, in plain words. No program in it. -/
namespace Go.Proofs.YticiihjkgiookaaGreat.Spa
open Go.RowKit Go.Proofs.YticiihjkgiookaaGreat
open Go.Proofs.YticiihjkgiookaaGreat.Lea (LS Ls findX putL renX)
open Go.Proofs.YticiihjkgiookaaGreat.Edi (Ed)

/-- A space. -/
structure Sp where
  tx : Int
  nb : Int
  ng : Int
  now : Int
  ns : NS
  ls : LS
def zeroS : Sp := ⟨0, 0, 0, 0, [], []⟩
def rootN : Nd := ⟨rootP, true, -1, [], -1⟩
def newS : Sp := ⟨0, 1, 1, 0, [rootN], []⟩
def zeroB : Blk := ⟨0, 0, 0⟩
def zeroN : Nd := ⟨⟨#[]⟩, false, 0, [], 0⟩
def blksL (xs : NS) : List Blk := xs.flatMap (·.bs)

structure RtS (s : Sp) : Prop where
  tx : 0 ≤ s.tx ∧ s.tx ≤ 300
  nb : 1 ≤ s.nb ∧ s.nb ≤ 9007199254740991
  ng : 1 ≤ s.ng ∧ s.ng ≤ 9007199254740991
  now : 0 ≤ s.now ∧ s.now ≤ 9007199254740981
  tree : Right s.ns
  over : overL s.ns = []
  ids : (blksL s.ns).Pairwise (fun a b => a.id ≠ b.id)
  lo : ∀ b ∈ blksL s.ns, b.id < s.nb ∧ b.gen < s.ng
  ls : Lea.Rt s.ls
  wr : ∀ x ∈ s.ns, x.wr ≠ -1 → (findX s.ls x.wr).2 = true

/-- An answer. -/
structure An where
  err : Int
  b : Blk
  names : List ByteArray
  nd : Nd
  n : Int
def errA (E : Int) : An := ⟨E, zeroB, [], zeroN, 0⟩

/-- At p, the i-th, stands x. -/
structure Is (xs : NS) (p : ByteArray) (i : Nat) (x : Nd) : Prop where
  path : pathB p = true
  at_ : at? xs p = some i
  nd : xs[i]? = some x

inductive NodeE (xs : NS) (p : ByteArray) : Int → Prop
  | arg : pathB p = false → NodeE xs p 1
  | none : pathB p = true → at? xs p = none → NodeE xs p 5
  | ok (i : Nat) (x : Nd) : Is xs p i x → NodeE xs p 0
inductive FileE (xs : NS) (p : ByteArray) : Int → Prop
  | node (E : Int) : NodeE xs p E → E ≠ 0 → FileE xs p E
  | dir (i : Nat) (x : Nd) : Is xs p i x → x.dir = true → FileE xs p 7
  | ok (i : Nat) (x : Nd) : Is xs p i x → x.dir = false → FileE xs p 0
inductive WritE (xs : NS) (p : ByteArray) (c : Int) : Int → Prop
  | file (E : Int) : FileE xs p E → E ≠ 0 → WritE xs p c E
  | lease (i : Nat) (x : Nd) : Is xs p i x → x.dir = false → x.wr ≠ c → WritE xs p c 9
  | ok (i : Nat) (x : Nd) : Is xs p i x → x.dir = false → x.wr = c → WritE xs p c 0

def newN (e : Ed) : Nd := ⟨e.p, decide (e.k = 1), -1, [], if e.k = 2 then e.c else -1⟩
def lenB (l : Int) : Bool := decide (l ≤ 64)
structure LenOk (bs : List Blk) (ls : List Int) : Prop where
  len : ls.length = bs.length
  each : ∀ l ∈ ls, l ≤ 64
def setLens : List Blk → List Int → List Blk
  | b :: bs, l :: ls => ⟨b.id, b.gen, l⟩ :: setLens bs ls
  | _, _ => []

inductive MadeE (s : Sp) (e : Ed) : Int → Prop
  | add (E : Int) : AddE s.ns (newN e) E → E ≠ 0 → MadeE s e E
  | full : AddE s.ns (newN e) 0 → roomI s.ns (parD e.p) < 1 → MadeE s e 8
  | ok : AddE s.ns (newN e) 0 → 1 ≤ roomI s.ns (parD e.p) → MadeE s e 0
inductive RenE (s : Sp) (e : Ed) : Int → Prop
  | mov (E : Int) : MovE s.ns e.p e.t E → E ≠ 0 → RenE s e E
  | full : MovE s.ns e.p e.t 0 → overL (movL s.ns e.p e.t) ≠ [] → RenE s e 8
  | ok : MovE s.ns e.p e.t 0 → overL (movL s.ns e.p e.t) = [] → RenE s e 0
/-- Whom e's client writes, and the lengths fit. -/
structure Wr (s : Sp) (e : Ed) (i : Nat) (x : Nd) : Prop where
  is : Is s.ns e.p i x
  dir : x.dir = false
  wr : x.wr = e.c
inductive AddBE (s : Sp) (e : Ed) : Int → Prop
  | writ (E : Int) : WritE s.ns e.p e.c E → E ≠ 0 → AddBE s e E
  | arg (i : Nat) (x : Nd) : Wr s e i x → ¬ LenOk x.bs e.ls → AddBE s e 1
  | long (i : Nat) (x : Nd) : Wr s e i x → LenOk x.bs e.ls → (x.bs.length = 8 ∨ s.nb = 9007199254740991 ∨ s.ng = 9007199254740991) → AddBE s e 4
  | ok (i : Nat) (x : Nd) : Wr s e i x → LenOk x.bs e.ls → x.bs.length ≠ 8 → s.nb ≠ 9007199254740991 → s.ng ≠ 9007199254740991 → AddBE s e 0
inductive CompE (s : Sp) (e : Ed) : Int → Prop
  | writ (E : Int) : WritE s.ns e.p e.c E → E ≠ 0 → CompE s e E
  | arg (i : Nat) (x : Nd) : Wr s e i x → ¬ LenOk x.bs e.ls → CompE s e 1
  | ok (i : Nat) (x : Nd) : Wr s e i x → LenOk x.bs e.ls → CompE s e 0
inductive BumpE (s : Sp) (e : Ed) : Int → Prop
  | writ (E : Int) : WritE s.ns e.p e.c E → E ≠ 0 → BumpE s e E
  | arg (i : Nat) (x : Nd) : Wr s e i x → (x.bs.length : Int) ≤ e.n → BumpE s e 1
  | long (i : Nat) (x : Nd) : Wr s e i x → e.n < (x.bs.length : Int) → s.ng = 9007199254740991 → BumpE s e 4
  | ok (i : Nat) (x : Nd) : Wr s e i x → e.n < (x.bs.length : Int) → s.ng ≠ 9007199254740991 → BumpE s e 0
inductive ReopE (s : Sp) (e : Ed) : Int → Prop
  | file (E : Int) : FileE s.ns e.p E → E ≠ 0 → ReopE s e E
  | lease (i : Nat) (x : Nd) : Is s.ns e.p i x → x.dir = false → x.wr ≠ -1 → ReopE s e 9
  | ok (i : Nat) (x : Nd) : Is s.ns e.p i x → x.dir = false → x.wr = -1 → ReopE s e 0
inductive SetQE (s : Sp) (e : Ed) : Int → Prop
  | node (E : Int) : NodeE s.ns e.p E → E ≠ 0 → SetQE s e E
  | dir (i : Nat) (x : Nd) : Is s.ns e.p i x → x.dir = false → SetQE s e 7
  | full (i : Nat) (x : Nd) : Is s.ns e.p i x → x.dir = true → e.n ≠ -1 → e.n < (cntL s.ns e.p : Int) → SetQE s e 8
  | ok (i : Nat) (x : Nd) : Is s.ns e.p i x → x.dir = true → (e.n ≠ -1 → (cntL s.ns e.p : Int) ≤ e.n) → SetQE s e 0
inductive RnwE (s : Sp) (e : Ed) : Int → Prop
  | arg : ¬ (s.now ≤ e.n ∧ e.n ≤ 9007199254740981) → RnwE s e 1
  | ok : s.now ≤ e.n → e.n ≤ 9007199254740981 → RnwE s e 0
inductive DoE (s : Sp) (e : Ed) : Int → Prop
  | made (E : Int) : (e.k = 1 ∨ e.k = 2) → MadeE s e E → DoE s e E
  | rem (E : Int) : e.k = 3 → RemE s.ns e.p E → DoE s e E
  | ren (E : Int) : e.k = 4 → RenE s e E → DoE s e E
  | addb (E : Int) : e.k = 5 → AddBE s e E → DoE s e E
  | comp (E : Int) : e.k = 6 → CompE s e E → DoE s e E
  | setq (E : Int) : e.k = 7 → SetQE s e E → DoE s e E
  | rnw (E : Int) : e.k = 8 → RnwE s e E → DoE s e E
  | bump (E : Int) : e.k = 9 → BumpE s e E → DoE s e E
  | reop (E : Int) : e.k = 10 → ReopE s e E → DoE s e E
inductive AppE (s : Sp) (e : Ed) : Int → Prop
  | arg : ¬ (RtS s ∧ Edi.Rt e) → AppE s e 1
  | long : RtS s → Edi.Rt e → s.tx = 300 → AppE s e 4
  | does (E : Int) : RtS s → Edi.Rt e → s.tx ≠ 300 → DoE s e E → AppE s e E

/-! ### there is always one -/
theorem Is.lt {xs : NS} {p : ByteArray} {i : Nat} {x : Nd} (h : Is xs p i x) : i < xs.length := (List.getElem?_eq_some_iff.1 h.nd).1
theorem Is.get {xs : NS} {p : ByteArray} {i : Nat} {x : Nd} (h : Is xs p i x) : xs[i]'h.lt = x := (List.getElem?_eq_some_iff.1 h.nd).2
theorem Is.mem {xs : NS} {p : ByteArray} {i : Nat} {x : Nd} (h : Is xs p i x) : x ∈ xs := List.mem_of_getElem? h.nd
theorem Is.eq {xs : NS} {p : ByteArray} {i : Nat} {x : Nd} (h : Is xs p i x) : x.path = p := by
  obtain ⟨hi, h1, _⟩ := at_some h.at_
  rw [← h.get]; exact h1
theorem Is.find {xs : NS} {p : ByteArray} {i : Nat} {x : Nd} (h : Is xs p i x) : findI xs p = (i : Int) := by unfold findI; rw [h.at_]
theorem Is.one {xs : NS} {p : ByteArray} {i j : Nat} {x y : Nd} (h : Is xs p i x) (k : Is xs p j y) : i = j ∧ x = y := by
  have e : some i = some j := h.at_.symm.trans k.at_
  cases e
  have := h.nd.symm.trans k.nd
  cases this
  exact ⟨rfl, rfl⟩

theorem node_cases (xs : NS) (p : ByteArray) : pathB p = false ∨ (pathB p = true ∧ at? xs p = none) ∨ ∃ i x, Is xs p i x := by
  cases h : pathB p with
  | false => exact .inl rfl
  | true =>
    cases h2 : at? xs p with
    | none => exact .inr (.inl ⟨rfl, rfl⟩)
    | some i =>
      obtain ⟨hi, _⟩ := at_some h2
      exact .inr (.inr ⟨i, xs[i], h, h2, List.getElem?_eq_getElem hi⟩)
theorem file_cases (xs : NS) (p : ByteArray) : (∃ E, FileE xs p E ∧ E ≠ 0) ∨ ∃ i x, Is xs p i x ∧ x.dir = false := by
  rcases node_cases xs p with h | ⟨h, h2⟩ | ⟨i, x, h⟩
  · exact .inl ⟨1, .node 1 (.arg h) (by decide), by decide⟩
  · exact .inl ⟨5, .node 5 (.none h h2) (by decide), by decide⟩
  · cases hd : x.dir with
    | true => exact .inl ⟨7, .dir i x h hd, by decide⟩
    | false => exact .inr ⟨i, x, h, hd⟩
theorem writ_cases (s : Sp) (e : Ed) : (∃ E, WritE s.ns e.p e.c E ∧ E ≠ 0) ∨ ∃ i x, Wr s e i x := by
  rcases file_cases s.ns e.p with ⟨E, h, h0⟩ | ⟨i, x, h, hd⟩
  · exact .inl ⟨E, .file E h h0, h0⟩
  · by_cases hw : x.wr = e.c
    · exact .inr ⟨i, x, h, hd, hw⟩
    · exact .inl ⟨9, .lease i x h hd hw, by decide⟩

theorem doE_any {s : Sp} {e : Ed} (h : Edi.Rt e) : ∃ E, DoE s e E := by
  have hk := Edi.inB_iff.1 h.kind
  have hk2 : (e.k = 1 ∨ e.k = 2) ∨ e.k = 3 ∨ e.k = 4 ∨ e.k = 5 ∨ e.k = 6 ∨ e.k = 7 ∨ e.k = 8 ∨ e.k = 9 ∨ e.k = 10 := by omega
  rcases hk2 with k | k | k | k | k | k | k | k | k
  · obtain ⟨E, hE⟩ := addE_any s.ns (newN e)
    by_cases h0 : E = 0
    · subst h0
      by_cases hr : roomI s.ns (parD e.p) < 1
      · exact ⟨8, .made _ k (.full hE hr)⟩
      · exact ⟨0, .made _ k (.ok hE (by omega))⟩
    · exact ⟨E, .made _ k (.add E hE h0)⟩
  · obtain ⟨E, hE⟩ := remE_any s.ns e.p
    exact ⟨E, .rem _ k hE⟩
  · obtain ⟨E, hE⟩ := movE_any s.ns e.p e.t
    by_cases h0 : E = 0
    · subst h0
      by_cases hr : overL (movL s.ns e.p e.t) = []
      · exact ⟨0, .ren _ k (.ok hE hr)⟩
      · exact ⟨8, .ren _ k (.full hE hr)⟩
    · exact ⟨E, .ren _ k (.mov E hE h0)⟩
  · rcases writ_cases s e with ⟨E, hE, h0⟩ | ⟨i, x, hw⟩
    · exact ⟨E, .addb _ k (.writ E hE h0)⟩
    · by_cases hl : LenOk x.bs e.ls
      · by_cases h8 : x.bs.length = 8 ∨ s.nb = 9007199254740991 ∨ s.ng = 9007199254740991
        · exact ⟨4, .addb _ k (.long i x hw hl h8)⟩
        · exact ⟨0, .addb _ k (.ok i x hw hl (fun e => h8 (.inl e)) (fun e => h8 (.inr (.inl e))) (fun e => h8 (.inr (.inr e))))⟩
      · exact ⟨1, .addb _ k (.arg i x hw hl)⟩
  · rcases writ_cases s e with ⟨E, hE, h0⟩ | ⟨i, x, hw⟩
    · exact ⟨E, .comp _ k (.writ E hE h0)⟩
    · by_cases hl : LenOk x.bs e.ls
      · exact ⟨0, .comp _ k (.ok i x hw hl)⟩
      · exact ⟨1, .comp _ k (.arg i x hw hl)⟩
  · rcases node_cases s.ns e.p with h | ⟨h, h2⟩ | ⟨i, x, h⟩
    · exact ⟨1, .setq _ k (.node 1 (.arg h) (by decide))⟩
    · exact ⟨5, .setq _ k (.node 5 (.none h h2) (by decide))⟩
    · cases hd : x.dir with
      | false => exact ⟨7, .setq _ k (.dir i x h hd)⟩
      | true =>
        by_cases hn : e.n ≠ -1 ∧ e.n < (cntL s.ns e.p : Int)
        · exact ⟨8, .setq _ k (.full i x h hd hn.1 hn.2)⟩
        · exact ⟨0, .setq _ k (.ok i x h hd (fun e1 => by
            have : ¬ (e.n < (cntL s.ns e.p : Int)) := fun e2 => hn ⟨e1, e2⟩
            omega))⟩
  · by_cases hn : s.now ≤ e.n ∧ e.n ≤ 9007199254740981
    · exact ⟨0, .rnw _ k (.ok hn.1 hn.2)⟩
    · exact ⟨1, .rnw _ k (.arg hn)⟩
  · rcases writ_cases s e with ⟨E, hE, h0⟩ | ⟨i, x, hw⟩
    · exact ⟨E, .bump _ k (.writ E hE h0)⟩
    · by_cases hl : (x.bs.length : Int) ≤ e.n
      · exact ⟨1, .bump _ k (.arg i x hw hl)⟩
      · by_cases hg : s.ng = 9007199254740991
        · exact ⟨4, .bump _ k (.long i x hw (by omega) hg)⟩
        · exact ⟨0, .bump _ k (.ok i x hw (by omega) hg)⟩
  · rcases file_cases s.ns e.p with ⟨E, hE, h0⟩ | ⟨i, x, hw, hd⟩
    · exact ⟨E, .reop _ k (.file E hE h0)⟩
    · by_cases hl : x.wr = -1
      · exact ⟨0, .reop _ k (.ok i x hw hd hl)⟩
      · exact ⟨9, .reop _ k (.lease i x hw hd hl)⟩
theorem appE_any (s : Sp) (e : Ed) : ∃ E, AppE s e E := by
  by_cases h : RtS s ∧ Edi.Rt e
  · by_cases ht : s.tx = 300
    · exact ⟨4, .long h.1 h.2 ht⟩
    · obtain ⟨E, hE⟩ := doE_any (s := s) h.2
      exact ⟨E, .does E h.1 h.2 ht hE⟩
  · exact ⟨1, .arg h⟩

/-! ### what comes -/
def updN (xs : NS) (p : ByteArray) (f : Nd → Nd) : NS := match at? xs p with
  | none => xs
  | some i => match xs[i]? with
    | none => xs
    | some x => xs.set i (f x)
def withBs (x : Nd) (bs : List Blk) : Nd := ⟨x.path, x.dir, x.quota, bs, x.wr⟩
def withWr (x : Nd) (c : Int) : Nd := ⟨x.path, x.dir, x.quota, x.bs, c⟩
def withQu (x : Nd) (q : Int) : Nd := ⟨x.path, x.dir, q, x.bs, x.wr⟩
def setGen : List Blk → Nat → Int → List Blk
  | [], _, _ => []
  | b :: bs, 0, g => ⟨b.id, g, b.len⟩ :: bs
  | b :: bs, n + 1, g => b :: setGen bs n g
/-- What an edit makes of the node at its path. -/
def onN (s : Sp) (e : Ed) (x : Nd) : Nd :=
  if e.k = 5 then withBs x (setLens x.bs e.ls ++ [⟨s.nb, s.ng, 0⟩])
  else if e.k = 6 then withWr (withBs x (setLens x.bs e.ls)) (-1)
  else if e.k = 7 then withQu x e.n
  else if e.k = 9 then withBs x (setGen x.bs e.n.toNat s.ng)
  else if e.k = 10 then withWr x e.c
  else x
def nsOf (s : Sp) (e : Ed) : NS :=
  if e.k = 1 ∨ e.k = 2 then sortN (s.ns ++ [newN e])
  else if e.k = 3 then leftL s.ns e.p
  else if e.k = 4 then movL s.ns e.p e.t
  else updN s.ns e.p (onN s e)
def nowOf (s : Sp) (e : Ed) : Int := if e.k = 8 then e.n else s.now
def lsOf (s : Sp) (e : Ed) : LS := if e.k = 2 ∨ e.k = 8 ∨ e.k = 10 then (renX s.ls e.c (nowOf s e)).1 else s.ls
def doS (s : Sp) (e : Ed) : Sp := ⟨s.tx + 1, if e.k = 5 then s.nb + 1 else s.nb, if e.k = 5 ∨ e.k = 9 then s.ng + 1 else s.ng, nowOf s e, nsOf s e, lsOf s e⟩
def nodeOr (xs : NS) (p : ByteArray) : Nd := match at? xs p with
  | none => zeroN
  | some i => xs.getD i zeroN
def blkOf (s : Sp) (e : Ed) : Blk :=
  if e.k = 5 then ⟨s.nb, s.ng, 0⟩
  else if e.k = 9 then (setGen (nodeOr s.ns e.p).bs e.n.toNat s.ng).getD e.n.toNat zeroB
  else zeroB
def ndOf (s : Sp) (e : Ed) : Nd :=
  if e.k = 2 then newN e
  else if e.k = 5 ∨ e.k = 6 ∨ e.k = 9 ∨ e.k = 10 then onN s e (nodeOr s.ns e.p)
  else zeroN
def appS (s : Sp) (e : Ed) (E : Int) : Sp := if E = 0 then doS s e else zeroS
def appA (s : Sp) (e : Ed) (E : Int) : An := if E = 0 then ⟨0, blkOf s e, [], ndOf s e, 0⟩ else errA E

theorem Is.nodeOr {xs : NS} {p : ByteArray} {i : Nat} {x : Nd} (h : Is xs p i x) : nodeOr xs p = x := by
  unfold Spa.nodeOr; rw [h.at_]; simp [h.nd]
theorem Is.upd {xs : NS} {p : ByteArray} {i : Nat} {x : Nd} (h : Is xs p i x) (f : Nd → Nd) : updN xs p f = xs.set i (f x) := by
  unfold updN; rw [h.at_]; simp [h.nd]
theorem updN_self (xs : NS) (p : ByteArray) (f : Nd → Nd) (h : ∀ x ∈ xs, f x = x) : updN xs p f = xs := by
  unfold updN
  split
  · rfl
  · rename_i i hi
    split
    · rfl
    · rename_i x hx
      rw [h x (List.mem_of_getElem? hx)]
      obtain ⟨h1, rfl⟩ := List.getElem?_eq_some_iff.1 hx
      exact List.set_getElem_self h1

theorem setLens_len : ∀ (bs : List Blk) (ls : List Int), ls.length = bs.length → (setLens bs ls).length = bs.length
  | [], [], _ => rfl
  | b :: bs, l :: ls, h => by simp [setLens]; exact setLens_len bs ls (by simpa using h)
  | [], l :: ls, h => by simp at h
  | b :: bs, [], h => by simp at h
theorem setLens_at : ∀ (bs : List Blk) (ls : List Int) (h : ls.length = bs.length) (j : Nat) (hj : j < (setLens bs ls).length), (setLens bs ls)[j] = ⟨(bs[j]'(by rw [setLens_len _ _ h] at hj; exact hj)).id, (bs[j]'(by rw [setLens_len _ _ h] at hj; exact hj)).gen, ls[j]'(by rw [setLens_len _ _ h] at hj; omega)⟩
  | [], [], _, j, hj => by simp [setLens] at hj
  | b :: bs, l :: ls, h, 0, hj => by simp [setLens]
  | b :: bs, l :: ls, h, j + 1, hj => by
    simp only [setLens, List.getElem_cons_succ]
    exact setLens_at bs ls (by simpa using h) j _
  | [], l :: ls, h, _, _ => by simp at h
  | b :: bs, [], h, _, _ => by simp at h
theorem setGen_len : ∀ (bs : List Blk) (n : Nat) (g : Int), (setGen bs n g).length = bs.length
  | [], _, _ => rfl
  | b :: bs, 0, g => rfl
  | b :: bs, n + 1, g => by simp [setGen, setGen_len bs n g]
theorem setGen_set : ∀ (bs : List Blk) (n : Nat) (g : Int) (h : n < bs.length), setGen bs n g = bs.set n ⟨bs[n].id, g, bs[n].len⟩
  | [], _, _, h => by simp at h
  | b :: bs, 0, g, _ => rfl
  | b :: bs, n + 1, g, h => by
    have := setGen_set bs n g (by simpa using h)
    simp [setGen, this]

end Go.Proofs.YticiihjkgiookaaGreat.Spa

/- What an edit makes of a right space is right. No program in it. -/
namespace Go.Proofs.YticiihjkgiookaaGreat.Spa
open Go.RowKit Go.Proofs.YticiihjkgiookaaGreat
open Go.Proofs.YticiihjkgiookaaGreat.Lea (LS Ls findX putL renX)
open Go.Proofs.YticiihjkgiookaaGreat.Edi (Ed)

/-! ### what is over -/
theorem over_iff {xs : NS} : overL xs = [] ↔ ∀ x ∈ xs, 0 ≤ x.quota → (cntL xs x.path : Int) ≤ x.quota := by
  unfold overL
  rw [List.map_eq_nil_iff, List.filter_eq_nil_iff]
  refine ⟨fun h x hx h0 => ?_, fun h x hx e => ?_⟩
  · have := h x hx
    unfold overB at this
    simp [h0] at this
    omega
  · unfold overB at e
    simp only [Bool.and_eq_true, decide_eq_true_eq] at e
    have := h x hx e.1
    omega
theorem cnt_perm {xs ys : NS} (h : xs.Perm ys) (p : ByteArray) : cntL xs p = cntL ys p := (h.filter _).length_eq
theorem roomF_all (xs : NS) (p : ByteArray) (k : Int) : ∀ (l : NS) (r : Int), k ≤ roomF xs p r l → ∀ y ∈ l, 0 ≤ y.quota → underB y.path p = true → (cntL xs y.path : Int) + k ≤ y.quota
  | [], _, _, y, hy, _, _ => by cases hy
  | x :: l, r, h, y, hy, h0, hu => by
    rcases List.mem_cons.1 hy with rfl | hy
    · have h1 := Int.le_trans h (roomF_le xs p l _)
      unfold roomS at h1
      rw [if_pos ⟨h0, hu⟩] at h1
      omega
    · exact roomF_all xs p k l _ h y hy h0 hu
theorem room_some {xs : NS} {p : ByteArray} (h : 1 ≤ roomI xs p) : ∀ y ∈ xs, 0 ≤ y.quota → underB y.path p = true → (cntL xs y.path : Int) + 1 ≤ y.quota := by
  unfold roomI at h
  split at h
  · have h1 : 1 ≤ roomF xs p (60 - (xs.length : Int)) xs := by
      generalize roomF xs p (60 - (xs.length : Int)) xs = R at *
      omega
    intro y hy h0 hu
    have := roomF_all xs p 1 xs _ h1 y hy h0 hu
    omega
  · omega

theorem made_over {xs : NS} {x : Nd} (hA : AddE xs x 0) (hq : x.quota = -1) (ho : overL xs = []) (hr : 1 ≤ roomI xs (parD x.path)) : overL (sortN (xs ++ [x])) = [] := by
  rw [over_iff] at ho ⊢
  have hR := added hA
  cases hA with
  | par e h1 h2 h3 h4 h5 h6 => exact absurd rfl h6
  | ok h1 h2 h3 h4 h5 h6 =>
    intro y hy h0
    rw [cnt_perm (sortN_perm _), cnt_app, cnt_one]
    rcases List.mem_append.1 (sortN_mem.1 hy) with hy | hy
    · by_cases hu : underB y.path x.path = true
      · rw [if_pos hu]
        have hne : y.path ≠ x.path := at_none h4 y hy
        have := room_some hr y hy h0 (under_par hu hne h3)
        omega
      · rw [if_neg hu]
        have := ho y hy h0
        omega
    · rw [List.mem_singleton.1 hy, hq] at h0
      omega
theorem left_over {xs : NS} {p : ByteArray} (ho : overL xs = []) : overL (leftL xs p) = [] := by
  rw [over_iff] at ho ⊢
  intro y hy h0
  have hy' : y ∈ xs := (List.mem_filter.1 hy).1
  have h1 := ho y hy' h0
  have h2 : cntL (leftL xs p) y.path ≤ cntL xs y.path := by
    exact ((List.filter_sublist (l := xs)).filter _).length_le
  omega

/-! ### blocks -/
def idsL (xs : NS) : List Int := (blksL xs).map (·.id)
theorem ids_iff {xs : NS} : (blksL xs).Pairwise (fun a b => a.id ≠ b.id) ↔ (idsL xs).Nodup := by
  unfold idsL; rw [List.nodup_iff_pairwise_ne, List.pairwise_map]
theorem mem_blks {xs : NS} {b : Blk} : b ∈ blksL xs ↔ ∃ x ∈ xs, b ∈ x.bs := List.mem_flatMap
theorem blks_perm {xs ys : NS} (h : xs.Perm ys) : (blksL xs).Perm (blksL ys) := List.Perm.flatMap_right _ h
theorem blks_app (xs ys : NS) : blksL (xs ++ ys) = blksL xs ++ blksL ys := List.flatMap_append
theorem blks_one (x : Nd) : blksL [x] = x.bs := by simp [blksL]
theorem pair_perm {l m : List Blk} (h : l.Perm m) (hl : l.Pairwise (fun a b => a.id ≠ b.id)) : m.Pairwise (fun a b => a.id ≠ b.id) :=
  (h.pairwise_iff (fun {_ _} e => e.symm)).1 hl

theorem sub_blks {xs ys : NS} (h : xs.Sublist ys) : (blksL xs).Sublist (blksL ys) := by
  induction h with
  | slnil => exact List.Sublist.refl _
  | cons a h ih =>
    show (blksL _).Sublist (a.bs ++ blksL _)
    exact ih.trans (List.sublist_append_right _ _)
  | cons_cons a h ih =>
    show (a.bs ++ blksL _).Sublist (a.bs ++ blksL _)
    exact (List.Sublist.refl _).append ih

theorem map_blks {xs : NS} {f : Nd → Nd} (h : ∀ x, (f x).bs = x.bs) : blksL (xs.map f) = blksL xs := by
  induction xs with
  | nil => rfl
  | cons x xs ih =>
    show (f x).bs ++ blksL (xs.map f) = x.bs ++ blksL xs
    rw [h, ih]

/-- What is moved has no blocks that were not there, each once. -/
theorem mov_sub {xs : NS} {f t : ByteArray} : ∃ zs : NS, zs.Sublist (xs.filter (fun x => !goesB f x)) ∧ (blksL (movL xs f t)).Perm (blksL zs ++ blksL (xs.filter (goesB f))) ∧ zs = xs.filter (stayB f t) := by
  refine ⟨xs.filter (stayB f t), ?_, ?_, rfl⟩
  · have : xs.filter (stayB f t) = (xs.filter (fun x => !goesB f x)).filter (stayB f t) := by
      rw [List.filter_filter]
      refine List.filter_congr fun x _ => ?_
      unfold stayB goesB
      cases decide (x.path = t) <;> cases underB f x.path <;> rfl
    rw [this]
    exact List.filter_sublist
  · refine (blks_perm (sortN_perm _)).trans ?_
    rw [blks_app, map_blks (f := movN f t) (fun x => rfl)]
theorem mov_blks_perm {xs : NS} {f : ByteArray} : (blksL (xs.filter (fun x => !goesB f x)) ++ blksL (xs.filter (goesB f))).Perm (blksL xs) := by
  rw [← blks_app]
  exact blks_perm (List.perm_append_comm.trans (List.filter_append_perm (goesB f) xs))
theorem mov_ids {xs : NS} {f t : ByteArray} (h : (blksL xs).Pairwise (fun a b => a.id ≠ b.id)) : (blksL (movL xs f t)).Pairwise (fun a b => a.id ≠ b.id) := by
  obtain ⟨zs, h1, h2, _⟩ := mov_sub (xs := xs) (f := f) (t := t)
  refine pair_perm h2.symm ?_
  have h3 := pair_perm (mov_blks_perm (xs := xs) (f := f)).symm h
  exact h3.sublist ((sub_blks h1).append (List.Sublist.refl _))
theorem mov_blks {xs : NS} {f t : ByteArray} {b : Blk} (h : b ∈ blksL (movL xs f t)) : b ∈ blksL xs := by
  obtain ⟨zs, h1, h2, _⟩ := mov_sub (xs := xs) (f := f) (t := t)
  exact mov_blks_perm.subset (((sub_blks h1).append (List.Sublist.refl _)).subset (h2.subset h))
theorem mov_wr {xs : NS} {f t : ByteArray} {x : Nd} (h : x ∈ movL xs f t) : ∃ y ∈ xs, y.wr = x.wr := by
  unfold movL at h
  rcases List.mem_append.1 (sortN_mem.1 h) with h | h
  · exact ⟨x, (List.mem_filter.1 h).1, rfl⟩
  · obtain ⟨z, hz, rfl⟩ := List.mem_map.1 h
    exact ⟨z, (List.mem_filter.1 hz).1, rfl⟩

/-! ### another node in its place -/
section
variable {xs : NS} {i : Nat} {x y : Nd}
theorem set_split (hx : xs[i]? = some x) : xs = xs.take i ++ x :: xs.drop (i + 1) ∧ xs.set i y = xs.take i ++ y :: xs.drop (i + 1) := by
  obtain ⟨hi, rfl⟩ := List.getElem?_eq_some_iff.1 hx
  exact ⟨by rw [← List.drop_eq_getElem_cons hi, List.take_append_drop], by rw [List.set_eq_take_append_cons_drop, if_pos hi]⟩
theorem set_mem {z : Nd} (hz : z ∈ xs.set i y) : z = y ∨ z ∈ xs := (List.mem_or_eq_of_mem_set hz).symm
theorem set_paths (hx : xs[i]? = some x) (hp : y.path = x.path) : (xs.set i y).map (·.path) = xs.map (·.path) := by
  obtain ⟨h1, h2⟩ := set_split (y := y) hx
  rw [h2]
  conv => rhs; rw [h1]
  simp only [List.map_append, List.map_cons, hp]
theorem set_to (hx : xs[i]? = some x) (hp : y.path = x.path) (hd : y.dir = x.dir) {z : Nd} (hz : z ∈ xs) : ∃ u ∈ xs.set i y, u.path = z.path ∧ u.dir = z.dir := by
  obtain ⟨h1, h2⟩ := set_split (y := y) hx
  rw [h2]
  rw [h1] at hz
  rcases List.mem_append.1 hz with h | h
  · exact ⟨z, List.mem_append.2 (.inl h), rfl, rfl⟩
  · rcases List.mem_cons.1 h with h | h
    · exact ⟨y, by simp, by rw [h]; exact hp, by rw [h]; exact hd⟩
    · exact ⟨z, List.mem_append.2 (.inr (List.mem_cons_of_mem _ h)), rfl, rfl⟩
theorem paths_asc {xs ys : NS} (h : ys.map (·.path) = xs.map (·.path)) (ha : Asc xs) : Asc ys := by
  unfold Asc at *
  have e : ∀ l : NS, l.Pairwise (fun x y => ltB x.path y.path = true) ↔ (l.map (·.path)).Pairwise (fun a b => ltB a b = true) := fun l => by rw [List.pairwise_map]
  rw [e, h, ← e]; exact ha
theorem set_right (h : Right xs) (hx : xs[i]? = some x) (hp : y.path = x.path) (hd : y.dir = x.dir) (hf : fitsB y = true) : Right (xs.set i y) := by
  refine right_of (paths_asc (set_paths hx hp) (right_asc h)) (by rw [List.length_set]; exact h.few) ?_ (fun z hz => ?_) (fun z hz hr => ?_)
  · obtain ⟨r, hr, hrp, _⟩ := right_root h
    obtain ⟨z, hz, hzp, _⟩ := set_to hx hp hd hr
    exact ⟨z, hz, hzp.trans hrp⟩
  · rcases set_mem hz with rfl | hz
    · exact hf
    · exact h.fit z hz
  · have : ∃ u ∈ xs, u.path = parD z.path ∧ u.dir = true := by
      rcases set_mem hz with rfl | hz
      · rw [hp] at hr ⊢
        exact right_par h (List.mem_of_getElem? hx) hr
      · exact right_par h hz hr
    obtain ⟨u, hu, hup, hud⟩ := this
    obtain ⟨v, hv, e1, e2⟩ := set_to hx hp hd hu
    exact ⟨v, hv, e1.trans hup, e2.trans hud⟩
theorem set_over (ho : overL xs = []) (hx : xs[i]? = some x) (hp : y.path = x.path) (hq : 0 ≤ y.quota → (cntL xs x.path : Int) ≤ y.quota) : overL (xs.set i y) = [] := by
  rw [over_iff] at ho ⊢
  intro z hz h0
  rw [cnt_paths (set_paths hx hp)]
  rcases set_mem hz with rfl | hz
  · rw [hp]; exact hq h0
  · exact ho z hz h0
theorem set_blks (hx : xs[i]? = some x) : blksL xs = blksL (xs.take i) ++ (x.bs ++ blksL (xs.drop (i + 1))) ∧ blksL (xs.set i y) = blksL (xs.take i) ++ (y.bs ++ blksL (xs.drop (i + 1))) := by
  obtain ⟨h1, h2⟩ := set_split (y := y) hx
  constructor
  · conv => lhs; rw [h1]
    rw [blks_app]; rfl
  · rw [h2, blks_app]; rfl
theorem set_ids (hx : xs[i]? = some x) (he : y.bs.map (·.id) = x.bs.map (·.id)) : idsL (xs.set i y) = idsL xs := by
  obtain ⟨h1, h2⟩ := set_blks (y := y) hx
  unfold idsL
  rw [h1, h2]
  simp only [List.map_append, he]
theorem set_more {b : Blk} (hx : xs[i]? = some x) (he : y.bs.map (·.id) = x.bs.map (·.id) ++ [b.id]) : (idsL (xs.set i y)).Perm (b.id :: idsL xs) := by
  obtain ⟨h1, h2⟩ := set_blks (y := y) hx
  unfold idsL
  rw [h1, h2]
  simp only [List.map_append, he]
  generalize (blksL (xs.take i)).map (·.id) = A
  generalize x.bs.map (·.id) = B
  generalize (blksL (xs.drop (i + 1))).map (·.id) = C
  have e : A ++ (B ++ [b.id] ++ C) = (A ++ B) ++ b.id :: C := by simp
  rw [e, ← List.append_assoc]
  exact List.perm_middle
end

/-! ### blocks of one node -/
theorem lens_ids : ∀ (bs : List Blk) (ls : List Int), ls.length = bs.length → (setLens bs ls).map (·.id) = bs.map (·.id)
  | [], [], _ => rfl
  | b :: bs, l :: ls, h => by simp [setLens]; exact lens_ids bs ls (by simpa using h)
  | [], l :: ls, h => by simp at h
  | b :: bs, [], h => by simp at h
theorem lens_mem : ∀ (bs : List Blk) (ls : List Int) (b : Blk), b ∈ setLens bs ls → ∃ c ∈ bs, c.id = b.id ∧ c.gen = b.gen ∧ b.len ∈ ls
  | b :: bs, l :: ls, c, h => by
    rcases List.mem_cons.1 h with rfl | h
    · exact ⟨b, by simp, rfl, rfl, by simp⟩
    · obtain ⟨d, h1, h2, h3, h4⟩ := lens_mem bs ls c h
      exact ⟨d, List.mem_cons_of_mem _ h1, h2, h3, List.mem_cons_of_mem _ h4⟩
  | [], [], _, h => by cases h
  | [], _ :: _, _, h => by cases h
  | _ :: _, [], _, h => by cases h
theorem gen_ids : ∀ (bs : List Blk) (n : Nat) (g : Int), (setGen bs n g).map (·.id) = bs.map (·.id)
  | [], _, _ => rfl
  | b :: bs, 0, g => rfl
  | b :: bs, n + 1, g => by simp [setGen, gen_ids bs n g]
theorem gen_mem : ∀ (bs : List Blk) (n : Nat) (g : Int) (b : Blk), b ∈ setGen bs n g → ∃ c ∈ bs, c.id = b.id ∧ c.len = b.len ∧ (b.gen = c.gen ∨ b.gen = g)
  | b :: bs, 0, g, c, h => by
    rcases List.mem_cons.1 h with rfl | h
    · exact ⟨b, by simp, rfl, rfl, .inr rfl⟩
    · exact ⟨c, List.mem_cons_of_mem _ h, rfl, rfl, .inl rfl⟩
  | b :: bs, n + 1, g, c, h => by
    rcases List.mem_cons.1 h with rfl | h
    · exact ⟨c, by simp, rfl, rfl, .inl rfl⟩
    · obtain ⟨d, h1, h2⟩ := gen_mem bs n g c h
      exact ⟨d, List.mem_cons_of_mem _ h1, h2⟩
  | [], _, _, _, h => by cases h

/-! ### leases -/
structure Rnw (xs ys : LS) (c now : Int) : Prop where
  eq : renX xs c now = (ys, true)
  right : Lea.Rt ys
  here : (findX ys c).2 = true
  lasts : now + 10 ≤ (findX ys c).1
  keep : ∀ z, (findX xs z).2 = true → (findX ys z).2 = true
theorem rnw_of {xs : LS} {c now : Int} (h : Lea.Rt xs) (hc : 0 ≤ c ∧ c < 4) (h1 : 0 ≤ now) (h2 : now ≤ 9007199254740981) : Rnw xs (renX xs c now).1 c now := by
  have e : renX xs c now = (putL xs ⟨c, max (findX xs c).1 (now + 10)⟩, true) := if_pos ⟨h, hc, h1, h2⟩
  have hR := Lea.ren_of h hc h1 h2
  rw [e]
  refine ⟨by rw [e], hR.right, by rw [hR.find], by rw [hR.find]; exact hR.ge, fun z hz => ?_⟩
  rcases Lea.find_cases xs z with ⟨y, hy, rfl, _⟩ | ⟨_, h0⟩
  · obtain ⟨u, _, hu⟩ := hR.keep y hy
    rw [hu]
  · rw [h0] at hz; cases hz

/-! ### nodes that fit -/
theorem file_of {x : Nd} (h : fitsB x = true) (hd : x.dir = false) : pathB x.path = true ∧ x.path ≠ rootP ∧ x.quota = -1 ∧ (-1 ≤ x.wr ∧ x.wr ≤ 3) ∧ x.bs.length ≤ 8 ∧ ∀ b ∈ x.bs, blkB b = true := by
  unfold fitsB at h
  rw [hd] at h
  simp only [Bool.and_eq_true, Bool.false_eq_true, if_false] at h
  unfold fileB headB at h
  simp only [Bool.and_eq_true, decide_eq_true_eq, Bool.not_eq_true', decide_eq_false_iff_not, List.all_eq_true] at h
  exact ⟨h.1, h.2.1.1.1.1, h.2.1.1.1.2, h.2.1.1.2, h.2.1.2, h.2.2⟩
theorem file_fits {x : Nd} (hd : x.dir = false) (h1 : pathB x.path = true) (h2 : x.path ≠ rootP) (h3 : x.quota = -1) (h4 : -1 ≤ x.wr ∧ x.wr ≤ 3) (h5 : x.bs.length ≤ 8) (h6 : ∀ b ∈ x.bs, blkB b = true) : fitsB x = true := by
  unfold fitsB
  rw [hd]
  simp only [Bool.and_eq_true, Bool.false_eq_true, if_false]
  unfold fileB headB
  simp only [Bool.and_eq_true, decide_eq_true_eq, Bool.not_eq_true', decide_eq_false_iff_not, List.all_eq_true]
  exact ⟨h1, ⟨⟨⟨h2, h3⟩, h4⟩, h5⟩, h6⟩
theorem dir_of {x : Nd} (h : fitsB x = true) (hd : x.dir = true) : pathB x.path = true ∧ x.bs = [] ∧ x.wr = -1 ∧ -1 ≤ x.quota ∧ x.quota ≤ 9007199254740991 := by
  unfold fitsB at h
  rw [hd] at h
  simp only [Bool.and_eq_true, if_true] at h
  unfold dirB at h
  simp only [Bool.and_eq_true, decide_eq_true_eq] at h
  exact ⟨h.1, List.length_eq_zero_iff.1 h.2.1.1, h.2.1.2, h.2.2.1, h.2.2.2⟩
theorem dir_fits {x : Nd} (hd : x.dir = true) (h1 : pathB x.path = true) (h2 : x.bs = []) (h3 : x.wr = -1) (h4 : -1 ≤ x.quota) (h5 : x.quota ≤ 9007199254740991) : fitsB x = true := by
  unfold fitsB
  rw [hd]
  simp only [Bool.and_eq_true, if_true]
  unfold dirB
  simp only [Bool.and_eq_true, decide_eq_true_eq]
  exact ⟨h1, ⟨by rw [h2]; rfl, h3⟩, h4, h5⟩
theorem blk_iff {b : Blk} : blkB b = true ↔ (1 ≤ b.id ∧ b.id ≤ 9007199254740991) ∧ (1 ≤ b.gen ∧ b.gen ≤ 9007199254740991) ∧ 0 ≤ b.len ∧ b.len ≤ 64 := by
  unfold blkB numB
  simp only [Bool.and_eq_true, decide_eq_true_eq]
  exact ⟨fun h => ⟨h.1.1, h.1.2, h.2⟩, fun h => ⟨⟨h.1, h.2.1⟩, h.2.2⟩⟩

end Go.Proofs.YticiihjkgiookaaGreat.Spa

/- What an edit makes of a right space is right: all kinds. No program in it. -/
namespace Go.Proofs.YticiihjkgiookaaGreat.Spa
open Go.RowKit Go.Proofs.YticiihjkgiookaaGreat
open Go.Proofs.YticiihjkgiookaaGreat.Lea (LS Ls findX putL renX)
open Go.Proofs.YticiihjkgiookaaGreat.Edi (Ed)

theorem upd_keeps {s : Sp} (h : RtS s) (ht : s.tx ≠ 300) {i : Nat} {x y : Nd} (hx : s.ns[i]? = some x) (hp : y.path = x.path) (hd : y.dir = x.dir) (hf : fitsB y = true) (hq : 0 ≤ y.quota → (cntL s.ns x.path : Int) ≤ y.quota) {nb ng now : Int} {ls : LS}
    (hids : (idsL (s.ns.set i y)).Nodup) (hlo : ∀ b ∈ y.bs, b.id < nb ∧ b.gen < ng) (hnb : s.nb ≤ nb ∧ nb ≤ 9007199254740991) (hng : s.ng ≤ ng ∧ ng ≤ 9007199254740991) (hnow : 0 ≤ now ∧ now ≤ 9007199254740981) (hls : Lea.Rt ls)
    (hkeep : ∀ z, (findX s.ls z).2 = true → (findX ls z).2 = true) (hw : y.wr ≠ -1 → (findX ls y.wr).2 = true) : RtS ⟨s.tx + 1, nb, ng, now, s.ns.set i y, ls⟩ := by
  have h1 := h.tx
  have h2 := h.nb
  have h3 := h.ng
  refine ⟨by show 0 ≤ s.tx + 1 ∧ s.tx + 1 ≤ 300; omega, by show 1 ≤ nb ∧ nb ≤ 9007199254740991; omega, by show 1 ≤ ng ∧ ng ≤ 9007199254740991; omega, hnow, set_right h.tree hx hp hd hf, set_over h.over hx hp hq, ids_iff.2 hids, fun b hb => ?_, hls, fun z hz hz1 => ?_⟩
  · obtain ⟨z, hz, hbz⟩ := mem_blks.1 hb
    rcases set_mem hz with rfl | hz
    · exact hlo b hbz
    · have := h.lo b (mem_blks.2 ⟨z, hz, hbz⟩)
      show b.id < nb ∧ b.gen < ng
      omega
  · rcases set_mem hz with rfl | hz
    · exact hw hz1
    · exact hkeep _ (h.wr z hz hz1)

theorem ids_same {s : Sp} (h : RtS s) {i : Nat} {x y : Nd} (hx : s.ns[i]? = some x) (he : y.bs.map (·.id) = x.bs.map (·.id)) : (idsL (s.ns.set i y)).Nodup := by
  rw [set_ids hx he]; exact ids_iff.1 h.ids

theorem Is.blks {s : Sp} (h : RtS s) {p : ByteArray} {i : Nat} {x : Nd} (hi : Is s.ns p i x) : ∀ b ∈ x.bs, b.id < s.nb ∧ b.gen < s.ng := fun b hb => h.lo b (mem_blks.2 ⟨x, hi.mem, hb⟩)

theorem client_of {e : Ed} (h : Edi.Rt e) : 0 ≤ e.c ∧ e.c < 4 := by have := Edi.inB_iff.1 h.client; omega
theorem lens_of {e : Ed} (h : Edi.Rt e) : ∀ l ∈ e.ls, 0 ≤ l := fun l hl => (Edi.inB_iff.1 (List.all_eq_true.1 h.each l hl)).1

theorem lens_fit {x : Nd} {ls : List Int} (hf : ∀ b ∈ x.bs, blkB b = true) (hl : LenOk x.bs ls) (h0 : ∀ l ∈ ls, 0 ≤ l) : ∀ b ∈ setLens x.bs ls, blkB b = true := fun b hb => by
  obtain ⟨c, hc, e1, e2, e3⟩ := lens_mem _ _ _ hb
  have := blk_iff.1 (hf c hc)
  have := h0 _ e3
  have := hl.each _ e3
  rw [blk_iff]
  omega

theorem keep_addb {s : Sp} {e : Ed} (h : RtS s) (he : Edi.Rt e) (ht : s.tx ≠ 300) (k : e.k = 5) (hd : AddBE s e 0) : RtS (doS s e) := by
  cases hd with
  | writ _ _ h0 => exact absurd rfl h0
  | ok i x hw hl h8 hn hg =>
    obtain ⟨f1, f2, f3, f4, f5, f6⟩ := file_of (h.tree.fit x hw.is.mem) hw.dir
    have hb := h.nb
    have hgb := h.ng
    have e1 : doS s e = ⟨s.tx + 1, s.nb + 1, s.ng + 1, s.now, s.ns.set i (withBs x (setLens x.bs e.ls ++ [⟨s.nb, s.ng, 0⟩])), s.ls⟩ := by
      have : nsOf s e = s.ns.set i (withBs x (setLens x.bs e.ls ++ [⟨s.nb, s.ng, 0⟩])) := by
        unfold nsOf
        rw [if_neg (by omega), if_neg (by omega), if_neg (by omega), hw.is.upd]
        unfold onN; rw [if_pos k]
      unfold doS nowOf lsOf
      rw [this, if_pos k, if_pos (.inl k), if_neg (by omega), if_neg (by omega)]
    rw [e1]
    have hL := setLens_len _ _ hl.len
    refine upd_keeps (y := withBs x (setLens x.bs e.ls ++ [⟨s.nb, s.ng, 0⟩])) (nb := s.nb + 1) (ng := s.ng + 1) h ht hw.is.nd rfl rfl (file_fits hw.dir f1 f2 f3 f4 ?_ (fun b hb => ?_)) (fun h0 => by have : x.quota = -1 := f3; have h0' : 0 ≤ x.quota := h0; omega) ?_ (fun b hb => ?_) (by omega) (by omega) h.now h.ls (fun _ hz => hz) (fun hw1 => h.wr x hw.is.mem hw1)
    · show (setLens x.bs e.ls ++ [_]).length ≤ 8
      rw [List.length_append, hL, List.length_singleton]; omega
    · have hb : b ∈ setLens x.bs e.ls ++ [⟨s.nb, s.ng, 0⟩] := hb
      rcases List.mem_append.1 hb with hb | hb
      · exact lens_fit f6 hl (lens_of he) b hb
      · rw [List.mem_singleton.1 hb, blk_iff]
        show (1 ≤ s.nb ∧ s.nb ≤ _) ∧ (1 ≤ s.ng ∧ s.ng ≤ _) ∧ (0 : Int) ≤ 0 ∧ (0 : Int) ≤ 64
        omega
    · refine (set_more (b := ⟨s.nb, s.ng, 0⟩) hw.is.nd ?_).nodup_iff.2 (List.nodup_cons.2 ⟨fun hm => ?_, ids_iff.1 h.ids⟩)
      · show (setLens x.bs e.ls ++ [(⟨s.nb, s.ng, 0⟩ : Blk)]).map (fun b => b.id) = _
        rw [List.map_append, lens_ids _ _ hl.len]; rfl
      · obtain ⟨b, hb, hbe⟩ := List.mem_map.1 hm
        have := h.lo b hb
        have hbe : b.id = s.nb := hbe
        omega
    · have hb : b ∈ setLens x.bs e.ls ++ [⟨s.nb, s.ng, 0⟩] := hb
      rcases List.mem_append.1 hb with hb | hb
      · obtain ⟨c, hc, e1, e2, e3⟩ := lens_mem _ _ _ hb
        have := hw.is.blks h c hc
        omega
      · rw [List.mem_singleton.1 hb]
        show s.nb < s.nb + 1 ∧ s.ng < s.ng + 1
        omega

theorem keep_comp {s : Sp} {e : Ed} (h : RtS s) (he : Edi.Rt e) (ht : s.tx ≠ 300) (k : e.k = 6) (hd : CompE s e 0) : RtS (doS s e) := by
  cases hd with
  | writ _ _ h0 => exact absurd rfl h0
  | ok i x hw hl =>
    obtain ⟨f1, f2, f3, f4, f5, f6⟩ := file_of (h.tree.fit x hw.is.mem) hw.dir
    have e1 : doS s e = ⟨s.tx + 1, s.nb, s.ng, s.now, s.ns.set i (withWr (withBs x (setLens x.bs e.ls)) (-1)), s.ls⟩ := by
      have : nsOf s e = s.ns.set i (withWr (withBs x (setLens x.bs e.ls)) (-1)) := by
        unfold nsOf
        rw [if_neg (by omega), if_neg (by omega), if_neg (by omega), hw.is.upd]
        unfold onN; rw [if_neg (by omega), if_pos k]
      unfold doS nowOf lsOf
      rw [this, if_neg (by omega), if_neg (by omega), if_neg (by omega), if_neg (by omega)]
    rw [e1]
    refine upd_keeps (y := withWr (withBs x (setLens x.bs e.ls)) (-1)) (nb := s.nb) (ng := s.ng) h ht hw.is.nd rfl rfl (file_fits hw.dir f1 f2 f3 (by show -1 ≤ (-1 : Int) ∧ (-1 : Int) ≤ 3; omega) ?_ (fun b hb => lens_fit f6 hl (lens_of he) b hb)) (fun h0 => by have : x.quota = -1 := f3; have h0' : 0 ≤ x.quota := h0; omega) (ids_same h hw.is.nd (lens_ids _ _ hl.len)) (fun b hb => ?_) ⟨Int.le_refl _, h.nb.2⟩ ⟨Int.le_refl _, h.ng.2⟩ h.now h.ls (fun _ hz => hz) (fun hw1 => absurd rfl hw1)
    · show (setLens x.bs e.ls).length ≤ 8
      rw [setLens_len _ _ hl.len]; exact f5
    · obtain ⟨c, hc, e1, e2, e3⟩ := lens_mem _ _ _ hb
      have := hw.is.blks h c hc
      omega

theorem keep_setq {s : Sp} {e : Ed} (h : RtS s) (he : Edi.Rt e) (ht : s.tx ≠ 300) (k : e.k = 7) (hd : SetQE s e 0) : RtS (doS s e) := by
  cases hd with
  | node _ _ h0 => exact absurd rfl h0
  | ok i x hi hxd hn =>
    obtain ⟨f1, f2, f3, f4, f5⟩ := dir_of (h.tree.fit x hi.mem) hxd
    have hnum := Edi.inB_iff.1 he.num
    have hlo : Edi.loN e.k = -1 := if_pos k
    have hhi : Edi.hiN e.k = 9007199254740991 := if_pos (.inl k)
    rw [hlo, hhi] at hnum
    have e1 : doS s e = ⟨s.tx + 1, s.nb, s.ng, s.now, s.ns.set i (withQu x e.n), s.ls⟩ := by
      have : nsOf s e = s.ns.set i (withQu x e.n) := by
        unfold nsOf
        rw [if_neg (by omega), if_neg (by omega), if_neg (by omega), hi.upd]
        unfold onN; rw [if_neg (by omega), if_neg (by omega), if_pos k]
      unfold doS nowOf lsOf
      rw [this, if_neg (by omega), if_neg (by omega), if_neg (by omega), if_neg (by omega)]
    rw [e1]
    refine upd_keeps (y := withQu x e.n) (nb := s.nb) (ng := s.ng) h ht hi.nd rfl rfl (dir_fits hxd f1 f2 f3 hnum.1 hnum.2) (fun h0 => ?_) (ids_same h hi.nd rfl) (fun b hb => ?_) ⟨Int.le_refl _, h.nb.2⟩ ⟨Int.le_refl _, h.ng.2⟩ h.now h.ls (fun _ hz => hz) (fun hw1 => absurd f3 hw1)
    · have h0 : 0 ≤ e.n := h0
      rw [hi.eq]; exact hn (by omega)
    · have hb : b ∈ x.bs := hb
      rw [f2] at hb; cases hb

theorem keep_bump {s : Sp} {e : Ed} (h : RtS s) (ht : s.tx ≠ 300) (k : e.k = 9) (hd : BumpE s e 0) : RtS (doS s e) := by
  cases hd with
  | writ _ _ h0 => exact absurd rfl h0
  | ok i x hw hl hg =>
    obtain ⟨f1, f2, f3, f4, f5, f6⟩ := file_of (h.tree.fit x hw.is.mem) hw.dir
    have hgb := h.ng
    have hnb := h.nb
    have e1 : doS s e = ⟨s.tx + 1, s.nb, s.ng + 1, s.now, s.ns.set i (withBs x (setGen x.bs e.n.toNat s.ng)), s.ls⟩ := by
      have : nsOf s e = s.ns.set i (withBs x (setGen x.bs e.n.toNat s.ng)) := by
        unfold nsOf
        rw [if_neg (by omega), if_neg (by omega), if_neg (by omega), hw.is.upd]
        unfold onN; rw [if_neg (by omega), if_neg (by omega), if_neg (by omega), if_pos k]
      unfold doS nowOf lsOf
      rw [this, if_neg (by omega), if_pos (.inr k), if_neg (by omega), if_neg (by omega)]
    rw [e1]
    refine upd_keeps (y := withBs x (setGen x.bs e.n.toNat s.ng)) (nb := s.nb) (ng := s.ng + 1) h ht hw.is.nd rfl rfl (file_fits hw.dir f1 f2 f3 f4 ?_ (fun b hb => ?_)) (fun h0 => by have : x.quota = -1 := f3; have h0' : 0 ≤ x.quota := h0; omega) (ids_same h hw.is.nd (gen_ids _ _ _)) (fun b hb => ?_) ⟨Int.le_refl _, h.nb.2⟩ (by omega) h.now h.ls (fun _ hz => hz) (fun hw1 => h.wr x hw.is.mem hw1)
    · show (setGen x.bs _ _).length ≤ 8
      rw [setGen_len]; exact f5
    · obtain ⟨c, hc, e1, e2, e3⟩ := gen_mem _ _ _ _ hb
      have := blk_iff.1 (f6 c hc)
      rw [blk_iff]
      omega
    · obtain ⟨c, hc, e1, e2, e3⟩ := gen_mem _ _ _ _ hb
      have := hw.is.blks h c hc
      omega

theorem keep_reop {s : Sp} {e : Ed} (h : RtS s) (he : Edi.Rt e) (ht : s.tx ≠ 300) (k : e.k = 10) (hd : ReopE s e 0) : RtS (doS s e) := by
  cases hd with
  | file _ _ h0 => exact absurd rfl h0
  | ok i x hi hxd hw =>
    obtain ⟨f1, f2, f3, f4, f5, f6⟩ := file_of (h.tree.fit x hi.mem) hxd
    have hc := client_of he
    have hR := rnw_of h.ls hc h.now.1 h.now.2
    have e1 : doS s e = ⟨s.tx + 1, s.nb, s.ng, s.now, s.ns.set i (withWr x e.c), (renX s.ls e.c s.now).1⟩ := by
      have : nsOf s e = s.ns.set i (withWr x e.c) := by
        unfold nsOf
        rw [if_neg (by omega), if_neg (by omega), if_neg (by omega), hi.upd]
        unfold onN; rw [if_neg (by omega), if_neg (by omega), if_neg (by omega), if_neg (by omega), if_pos k]
      unfold doS lsOf nowOf
      rw [this, if_neg (by omega), if_neg (by omega), if_neg (by omega), if_pos (.inr (.inr k))]
    rw [e1]
    exact upd_keeps (y := withWr x e.c) (nb := s.nb) (ng := s.ng) h ht hi.nd rfl rfl (file_fits hxd f1 f2 f3 (by show -1 ≤ e.c ∧ e.c ≤ 3; omega) f5 f6) (fun h0 => by have : x.quota = -1 := f3; have h0' : 0 ≤ x.quota := h0; omega) (ids_same h hi.nd rfl) (hi.blks h) ⟨Int.le_refl _, h.nb.2⟩ ⟨Int.le_refl _, h.ng.2⟩ h.now hR.right hR.keep (fun _ => hR.here)

theorem keep_rnw {s : Sp} {e : Ed} (h : RtS s) (he : Edi.Rt e) (ht : s.tx ≠ 300) (k : e.k = 8) (hd : RnwE s e 0) : RtS (doS s e) := by
  cases hd with
  | ok h1 h2 =>
    have hc := client_of he
    have hn := h.now
    have htx := h.tx
    have hR := rnw_of (now := e.n) h.ls hc (by omega) h2
    have e1 : doS s e = ⟨s.tx + 1, s.nb, s.ng, e.n, s.ns, (renX s.ls e.c e.n).1⟩ := by
      have : nsOf s e = s.ns := by
        unfold nsOf
        rw [if_neg (by omega), if_neg (by omega), if_neg (by omega)]
        refine updN_self _ _ _ fun x _ => ?_
        unfold onN; rw [if_neg (by omega), if_neg (by omega), if_neg (by omega), if_neg (by omega), if_neg (by omega)]
      unfold doS lsOf nowOf
      rw [this, if_neg (by omega), if_neg (by omega), if_pos k, if_pos (.inr (.inl k))]
    rw [e1]
    exact ⟨by show 0 ≤ s.tx + 1 ∧ s.tx + 1 ≤ 300; omega, h.nb, h.ng, by show 0 ≤ e.n ∧ e.n ≤ 9007199254740981; omega, h.tree, h.over, h.ids, h.lo, hR.right, fun x hx hw => hR.keep _ (h.wr x hx hw)⟩

theorem keep_rem {s : Sp} {e : Ed} (h : RtS s) (ht : s.tx ≠ 300) (k : e.k = 3) (hd : RemE s.ns e.p 0) : RtS (doS s e) := by
  have htx := h.tx
  have e1 : doS s e = ⟨s.tx + 1, s.nb, s.ng, s.now, leftL s.ns e.p, s.ls⟩ := by
    have : nsOf s e = leftL s.ns e.p := by
      unfold nsOf
      rw [if_neg (by omega), if_pos k]
    unfold doS lsOf nowOf
    rw [this, if_neg (by omega), if_neg (by omega), if_neg (by omega), if_neg (by omega)]
  rw [e1]
  have hS : (leftL s.ns e.p).Sublist s.ns := List.filter_sublist
  exact ⟨by show 0 ≤ s.tx + 1 ∧ s.tx + 1 ≤ 300; omega, h.nb, h.ng, h.now, (removed hd).1, left_over h.over, h.ids.sublist (sub_blks hS), fun b hb => h.lo b ((sub_blks hS).subset hb), h.ls, fun x hx hw => h.wr x (hS.subset hx) hw⟩

theorem keep_ren {s : Sp} {e : Ed} (h : RtS s) (ht : s.tx ≠ 300) (k : e.k = 4) (hd : RenE s e 0) : RtS (doS s e) := by
  cases hd with
  | mov _ _ h0 => exact absurd rfl h0
  | ok hm ho =>
    have htx := h.tx
    have e1 : doS s e = ⟨s.tx + 1, s.nb, s.ng, s.now, movL s.ns e.p e.t, s.ls⟩ := by
      have : nsOf s e = movL s.ns e.p e.t := by
        unfold nsOf
        rw [if_neg (by omega), if_neg (by omega), if_pos k]
      unfold doS lsOf nowOf
      rw [this, if_neg (by omega), if_neg (by omega), if_neg (by omega), if_neg (by omega)]
    rw [e1]
    exact ⟨by show 0 ≤ s.tx + 1 ∧ s.tx + 1 ≤ 300; omega, h.nb, h.ng, h.now, (mov_of hm).tree.1, ho, mov_ids h.ids, fun b hb => h.lo b (mov_blks hb), h.ls, fun x hx hw => by
      obtain ⟨y, hy, hyw⟩ := mov_wr hx
      rw [← hyw] at hw ⊢
      exact h.wr y hy hw⟩

theorem keep_made {s : Sp} {e : Ed} (h : RtS s) (he : Edi.Rt e) (ht : s.tx ≠ 300) (k : e.k = 1 ∨ e.k = 2) (hd : MadeE s e 0) : RtS (doS s e) := by
  cases hd with
  | add _ _ h0 => exact absurd rfl h0
  | ok hA hr =>
    have htx := h.tx
    have hc := client_of he
    have hns : nsOf s e = sortN (s.ns ++ [newN e]) := by unfold nsOf; rw [if_pos k]
    have hb : (blksL (sortN (s.ns ++ [newN e]))).Perm (blksL s.ns) := by
      refine (blks_perm (sortN_perm _)).trans ?_
      rw [blks_app, blks_one]
      show (blksL s.ns ++ []).Perm _
      rw [List.append_nil]
    have hR := rnw_of h.ls hc h.now.1 h.now.2
    have hls : Lea.Rt (lsOf s e) ∧ (∀ z, (findX s.ls z).2 = true → (findX (lsOf s e) z).2 = true) ∧ (e.k = 2 → (findX (lsOf s e) e.c).2 = true) := by
      unfold lsOf nowOf
      rcases k with k | k
      · rw [if_neg (by omega)]
        exact ⟨h.ls, fun _ hz => hz, fun e2 => by omega⟩
      · rw [if_pos (.inl k), if_neg (by omega)]
        exact ⟨hR.right, hR.keep, fun _ => hR.here⟩
    have e1 : doS s e = ⟨s.tx + 1, s.nb, s.ng, s.now, sortN (s.ns ++ [newN e]), lsOf s e⟩ := by
      unfold doS nowOf
      rw [hns, if_neg (by omega), if_neg (by omega), if_neg (by omega)]
    rw [e1]
    refine ⟨by show 0 ≤ s.tx + 1 ∧ s.tx + 1 ≤ 300; omega, h.nb, h.ng, h.now, (added hA).1, made_over hA rfl h.over hr, pair_perm hb.symm h.ids, fun b hm => h.lo b (hb.subset hm), hls.1, fun x hx hw => ?_⟩
    rcases List.mem_append.1 (sortN_mem.1 hx) with hx | hx
    · exact hls.2.1 _ (h.wr x hx hw)
    · rw [List.mem_singleton.1 hx] at hw ⊢
      unfold newN at hw ⊢
      simp only at hw ⊢
      by_cases k2 : e.k = 2
      · rw [if_pos k2]; exact hls.2.2 k2
      · rw [if_neg k2] at hw; exact absurd rfl hw

theorem keeps {s : Sp} {e : Ed} (h : RtS s) (he : Edi.Rt e) (ht : s.tx ≠ 300) (hd : DoE s e 0) : RtS (doS s e) := by
  cases hd with
  | made k hm => exact keep_made h he ht k hm
  | rem k hm => exact keep_rem h ht k hm
  | ren k hm => exact keep_ren h ht k hm
  | addb k hm => exact keep_addb h he ht k hm
  | comp k hm => exact keep_comp h he ht k hm
  | setq k hm => exact keep_setq h he ht k hm
  | rnw k hm => exact keep_rnw h he ht k hm
  | bump k hm => exact keep_bump h ht k hm
  | reop k hm => exact keep_reop h he ht k hm

theorem app_keeps {s : Sp} {e : Ed} (h : AppE s e 0) : RtS s ∧ RtS (doS s e) := by
  cases h with
  | does _ h he ht hd => exact ⟨h, keeps h he ht hd⟩

theorem new_right : RtS newS := by
  have hr : pathB rootP = true := by unfold pathB; rw [root_split.2]; rfl
  have hR : Right [rootN] := by
    refine right_of (List.pairwise_singleton _ _) (by decide) ⟨rootN, by simp, rfl⟩ (fun x hx => ?_) (fun x hx hp => ?_)
    · rw [List.mem_singleton.1 hx]
      exact dir_fits rfl hr rfl rfl (by decide) (by decide)
    · rw [List.mem_singleton.1 hx] at hp; exact absurd rfl hp
  refine ⟨by decide, by decide, by decide, by decide, hR, over_iff.2 fun x hx h0 => ?_, List.Pairwise.nil, fun b hb => (by cases hb), Lea.Rt.nil, fun x hx hw => ?_⟩
  · rw [List.mem_singleton.1 hx] at h0
    exact absurd h0 (by decide)
  · rw [List.mem_singleton.1 hx] at hw; exact absurd rfl hw

end Go.Proofs.YticiihjkgiookaaGreat.Spa

/- The chapter's example, in plain words: a file is made, a block is added, another client is refused, the file is completed, and opened again. No program in it. -/
namespace Go.Proofs.YticiihjkgiookaaGreat.Spa
open Go.RowKit Go.Proofs.YticiihjkgiookaaGreat
open Go.Proofs.YticiihjkgiookaaGreat.Lea (LS Ls findX putL renX)
open Go.Proofs.YticiihjkgiookaaGreat.Edi (Ed)

def pF : ByteArray := ⟨#[47, 102]⟩
def nF : ByteArray := ⟨#[102]⟩
theorem sF : splitX pF = ([nF], 0) := exP (good_of (by decide) (by decide) (by decide)) (by decide)
theorem xF : parentX pF = (rootP, nF, 0) := pxOf (ns := []) sF rfl

def ex1 : Ed := ⟨2, pF, ⟨#[]⟩, 1, 0, 0, []⟩
def ex2 : Ed := ⟨5, pF, ⟨#[]⟩, 1, 0, 0, []⟩
def ex3 : Ed := ⟨5, pF, ⟨#[]⟩, 2, 0, 0, []⟩
def ex4 : Ed := ⟨6, pF, ⟨#[]⟩, 1, 0, 0, [5]⟩
def ex5 : Ed := ⟨10, pF, ⟨#[]⟩, 2, 0, 0, []⟩
def fN (bs : List Blk) (c : Int) : Nd := ⟨pF, false, -1, bs, c⟩

theorem rt1 : Edi.Rt ex1 := ⟨by decide, by decide, by decide, by decide, by decide, by decide, by decide, by decide⟩
theorem rt2 : Edi.Rt ex2 := ⟨by decide, by decide, by decide, by decide, by decide, by decide, by decide, by decide⟩
theorem rt3 : Edi.Rt ex3 := ⟨by decide, by decide, by decide, by decide, by decide, by decide, by decide, by decide⟩
theorem rt4 : Edi.Rt ex4 := ⟨by decide, by decide, by decide, by decide, by decide, by decide, by decide, by decide⟩
theorem rt5 : Edi.Rt ex5 := ⟨by decide, by decide, by decide, by decide, by decide, by decide, by decide, by decide⟩

theorem is_f (bs : List Blk) (c : Int) : Is [rootN, fN bs c] pF 1 (fN bs c) :=
  ⟨bOf sF, at_is (by simp) rfl (fun j hj => by
    obtain rfl : j = 0 := by omega
    show rootP ≠ pF
    decide), rfl⟩
theorem fits_f : fitsB (newN ex1) = true := file_fits rfl (bOf sF) (by decide) rfl (by decide) (by decide) (fun b hb => by cases hb)
theorem a1 : AppE newS ex1 0 := by
  refine .does 0 new_right rt1 (by decide) (.made 0 (.inr rfl) (.ok (.ok new_right.tree fits_f (by decide) (at_no fun x hx => ?_) ?_ (by decide)) ?_))
  · rw [List.mem_singleton.1 hx]
    decide
  · show dirE [rootN] (parD pF) = 0
    rw [dOf xF]
    decide
  · show 1 ≤ roomI [rootN] (parD pF)
    rw [dOf xF]
    unfold roomI
    rw [if_pos (by decide)]
    unfold roomF roomS
    decide
def S1 : Sp := doS newS ex1
def S2 : Sp := doS S1 ex2
def S3 : Sp := doS S2 ex4
def S4 : Sp := doS S3 ex5
theorem r1 : RtS S1 := (app_keeps a1).2
theorem n1 : S1.ns = [rootN, fN [] 1] := by
  have h : nsOf newS ex1 = sortN ([rootN] ++ [newN ex1]) := if_pos (Or.inr rfl)
  show nsOf newS ex1 = _
  rw [h]
  refine (sortN_is (List.Perm.refl _) ?_).symm
  show Asc [rootN, newN ex1]
  unfold Asc
  simp only [List.pairwise_cons, List.mem_cons, List.not_mem_nil, or_false]
  refine ⟨fun x hx => ?_, fun x hx => hx.elim, List.Pairwise.nil⟩
  subst hx
  exact lt_lit (by decide)
theorem i1 : Is S1.ns pF 1 (fN [] 1) := by rw [n1]; exact is_f _ _
theorem a2 : AppE S1 ex2 0 :=
  .does 0 r1 rt2 (by decide) (.addb 0 rfl (.ok 1 (fN [] 1) ⟨i1, rfl, rfl⟩ ⟨rfl, fun l hl => by cases hl⟩ (by decide) (by decide) (by decide)))
theorem a3 : AppE S1 ex3 9 :=
  .does 9 r1 rt3 (by decide) (.addb 9 rfl (.writ 9 (.lease 1 (fN [] 1) i1 rfl (by decide)) (by decide)))
theorem r2 : RtS S2 := (app_keeps a2).2
theorem n2 : S2.ns = [rootN, fN [⟨1, 1, 0⟩] 1] := by
  have h : S2.ns = updN S1.ns pF (onN S1 ex2) := rfl
  rw [h, i1.upd, n1]
  rfl
theorem i2 : Is S2.ns pF 1 (fN [⟨1, 1, 0⟩] 1) := by rw [n2]; exact is_f _ _
theorem a4 : AppE S2 ex4 0 :=
  .does 0 r2 rt4 (by decide) (.comp 0 rfl (.ok 1 (fN [⟨1, 1, 0⟩] 1) ⟨i2, rfl, rfl⟩ ⟨rfl, fun l hl => by rw [List.mem_singleton.1 hl]; decide⟩))
theorem r3 : RtS S3 := (app_keeps a4).2
theorem n3 : S3.ns = [rootN, fN [⟨1, 1, 5⟩] (-1)] := by
  have h : S3.ns = updN S2.ns pF (onN S2 ex4) := rfl
  rw [h, i2.upd, n2]
  rfl
theorem i3 : Is S3.ns pF 1 (fN [⟨1, 1, 5⟩] (-1)) := by rw [n3]; exact is_f _ _
theorem a5 : AppE S3 ex5 0 :=
  .does 0 r3 rt5 (by decide) (.reop 0 rfl (.ok 1 (fN [⟨1, 1, 5⟩] (-1)) i3 rfl rfl))
theorem r4 : RtS S4 := (app_keeps a5).2
theorem n4 : S4.ns = [rootN, fN [⟨1, 1, 5⟩] 2] := by
  have h : S4.ns = updN S3.ns pF (onN S3 ex5) := rfl
  rw [h, i3.upd, n3]
  rfl
theorem i4 : Is S4.ns pF 1 (fN [⟨1, 1, 5⟩] 2) := by rw [n4]; exact is_f _ _
theorem b2 : blkOf S1 ex2 = ⟨1, 1, 0⟩ := rfl

end Go.Proofs.YticiihjkgiookaaGreat.Spa

/- What the statements about spaces ask, in plain words. No program in it. -/
namespace Go.Proofs.YticiihjkgiookaaGreat.Spa
open Go.RowKit Go.Proofs.YticiihjkgiookaaGreat
open Go.Proofs.YticiihjkgiookaaGreat.Lea (LS Ls findX putL renX untilX)
open Go.Proofs.YticiihjkgiookaaGreat.Edi (Ed)

/-- What an edit that is made hangs on. -/
structure Mk (s : Sp) (e : Ed) : Prop where
  rt : RtS s
  ed : Edi.Rt e
  tx : s.tx ≠ 300
  does : DoE s e 0
theorem mk_of {s : Sp} {e : Ed} (h : AppE s e 0) : Mk s e := by
  cases h with
  | does _ h he ht hd => exact ⟨h, he, ht, hd⟩

theorem app_tx {s : Sp} {e : Ed} : (doS s e).tx = s.tx + 1 := rfl
theorem app_nb {s : Sp} {e : Ed} : s.nb ≤ (doS s e).nb := by
  show s.nb ≤ if e.k = 5 then s.nb + 1 else s.nb
  split <;> omega
theorem app_ng {s : Sp} {e : Ed} : s.ng ≤ (doS s e).ng := by
  show s.ng ≤ if e.k = 5 ∨ e.k = 9 then s.ng + 1 else s.ng
  split <;> omega
theorem now_same {s : Sp} {e : Ed} (h : e.k ≠ 8) : (doS s e).now = s.now := if_neg h
theorem now_renew {s : Sp} {e : Ed} (h : e.k = 8) : (doS s e).now = e.n := if_pos h
theorem app_now {s : Sp} {e : Ed} (h : AppE s e 0) : s.now ≤ (doS s e).now := by
  by_cases k : e.k = 8
  · rw [now_renew k]
    cases (mk_of h).does with
    | made k2 _ => omega
    | rem k2 _ => omega
    | ren k2 _ => omega
    | addb k2 _ => omega
    | comp k2 _ => omega
    | setq k2 _ => omega
    | rnw _ hm => cases hm with | ok h1 h2 => exact h1
    | bump k2 _ => omega
    | reop k2 _ => omega
  · rw [now_same k]; exact Int.le_refl _

theorem app_lease {s : Sp} {e : Ed} (h : AppE s e 0) (hk : e.k = 2 ∨ e.k = 10 ∨ e.k = 8) : ∃ u, untilX (doS s e).ls e.c = (u, true) ∧ (doS s e).now + 10 ≤ u := by
  have hm := mk_of h
  have hr := (app_keeps h).2
  have e1 : (doS s e).ls = (renX s.ls e.c (doS s e).now).1 := if_pos (by omega)
  have hn : 0 ≤ (doS s e).now ∧ (doS s e).now ≤ 9007199254740981 := hr.now
  have hR := rnw_of (c := e.c) hm.rt.ls (client_of hm.ed) hn.1 hn.2
  rw [← e1] at hR
  refine ⟨(findX (doS s e).ls e.c).1, ?_, hR.lasts⟩
  rw [Lea.untilX_yes hr.ls]
  have := hR.here
  generalize findX (doS s e).ls e.c = y at *
  obtain ⟨a, b⟩ := y
  simp at this
  rw [this]
theorem right_lease {s : Sp} (h : RtS s) {x : Nd} (hx : x ∈ s.ns) (hw : 0 ≤ x.wr) : (untilX s.ls x.wr).2 = true := by
  rw [Lea.untilX_yes h.ls]
  exact h.wr x hx (by omega)

end Go.Proofs.YticiihjkgiookaaGreat.Spa

/- What SpaceWrites asks, in plain words. No program in it. -/
namespace Go.Proofs.YticiihjkgiookaaGreat.Spa
open Go.RowKit Go.Proofs.YticiihjkgiookaaGreat
open Go.Proofs.YticiihjkgiookaaGreat.Lea (LS Ls findX putL renX untilX)
open Go.Proofs.YticiihjkgiookaaGreat.Edi (Ed)

def UpB (l : List Blk) : Prop := l.Pairwise (fun a b => a.id < b.id)
theorem up_unique : ∀ {l m : List Blk}, l.Perm m → UpB l → UpB m → l = m
  | [], m, hp, _, _ => by rw [List.nil_perm] at hp; exact hp.symm
  | x :: l, [], hp, _, _ => by have := hp.length_eq; simp at this
  | x :: l, y :: m, hp, h1, h2 => by
    obtain ⟨h1a, h1b⟩ := List.pairwise_cons.1 h1
    obtain ⟨h2a, h2b⟩ := List.pairwise_cons.1 h2
    have e : x = y := by
      have hx : x ∈ y :: m := hp.subset (by simp)
      have hy : y ∈ x :: l := hp.symm.subset (by simp)
      rcases List.mem_cons.1 hx with e | hx
      · exact e
      · rcases List.mem_cons.1 hy with e | hy
        · exact e.symm
        · have := h1a y hy
          have := h2a x hx
          omega
    subst e
    rw [up_unique (List.Perm.cons_inv hp) h1b h2b]
/-- Blocks that rise, and are all unlike, rise. -/
theorem up_of {l m : List Blk} (hp : l.Perm m) (hu : l.Pairwise (fun a b => a.id ≤ b.id)) (hn : m.Pairwise (fun a b => a.id ≠ b.id)) : UpB l :=
  (hu.and (pair_perm hp.symm hn)).imp (fun ⟨h1, h2⟩ => by omega)

theorem at_set {xs : NS} {p : ByteArray} {i : Nat} {x y : Nd} (h : Is xs p i x) (hp : y.path = x.path) : Is (xs.set i y) p i y := by
  have hl := h.lt
  have hx := h.get
  obtain ⟨_, h1, h2⟩ := at_some h.at_
  refine ⟨h.path, at_is (by rw [List.length_set]; exact hl) ?_ (fun j hj => ?_), List.getElem?_set_self hl⟩
  · rw [List.getElem_set_self, hp]; exact h.eq
  · rw [List.getElem_set_ne (by omega)]; exact h2 j hj
theorem kinds {e : Ed} {a b : Int} {P : Prop} (h : e.k = a) (h2 : e.k = b) (hne : a ≠ b) : P := absurd (h.symm.trans h2) hne

theorem wr_block {s : Sp} {e : Ed} (h : AppE s e 0) (k : e.k = 5 ∨ e.k = 9) : ∃ i x, Is s.ns e.p i x ∧ x.wr = e.c ∧ (blkOf s e).gen = s.ng ∧ (e.k = 5 → (blkOf s e).id = s.nb) := by
  have hm := mk_of h
  cases hm.does with
  | made k2 _ => omega
  | rem k2 _ => omega
  | ren k2 _ => omega
  | addb k2 hd =>
    cases hd with
    | writ _ _ h0 => exact absurd rfl h0
    | ok i x hw _ _ _ _ =>
      refine ⟨i, x, hw.is, hw.wr, ?_, fun _ => ?_⟩
      · unfold blkOf; rw [if_pos k2]
      · unfold blkOf; rw [if_pos k2]
  | comp k2 _ => omega
  | setq k2 _ => omega
  | rnw k2 _ => omega
  | bump k2 hd =>
    cases hd with
    | writ _ _ h0 => exact absurd rfl h0
    | ok i x hw hl _ =>
      refine ⟨i, x, hw.is, hw.wr, ?_, fun k5 => by omega⟩
      have hn := Edi.inB_iff.1 hm.ed.num
      have hlo : Edi.loN e.k = 0 := if_neg (by omega)
      rw [hlo] at hn
      have hj : e.n.toNat < x.bs.length := by omega
      unfold blkOf
      rw [hw.is.nodeOr, if_neg (by omega), if_pos k2, setGen_set _ _ _ hj, List.getD_eq_getElem?_getD, List.getElem?_set_self hj]
      rfl
  | reop k2 _ => omega
theorem wr_comp {s : Sp} {e : Ed} (h : AppE s e 0) (k : e.k = 6) : ∃ i x, Is s.ns e.p i x ∧ x.wr = e.c ∧ ∃ y, Is (doS s e).ns e.p i y ∧ y.wr = -1 := by
  have hm := mk_of h
  cases hm.does with
  | made k2 _ => omega
  | rem k2 _ => omega
  | ren k2 _ => omega
  | addb k2 _ => omega
  | comp k2 hd =>
    cases hd with
    | writ _ _ h0 => exact absurd rfl h0
    | ok i x hw _ =>
      refine ⟨i, x, hw.is, hw.wr, withWr (withBs x (setLens x.bs e.ls)) (-1), ?_, rfl⟩
      have e1 : (doS s e).ns = s.ns.set i (withWr (withBs x (setLens x.bs e.ls)) (-1)) := by
        show nsOf s e = _
        unfold nsOf
        rw [if_neg (by omega), if_neg (by omega), if_neg (by omega), hw.is.upd]
        unfold onN; rw [if_neg (by omega), if_pos k2]
      rw [e1]
      exact at_set hw.is rfl
  | setq k2 _ => omega
  | rnw k2 _ => omega
  | bump k2 _ => omega
  | reop k2 _ => omega
theorem wr_same {s : Sp} {e : Ed} (h : AppE s e 0) (k : e.k = 1 ∨ e.k = 7 ∨ e.k = 8) : (blksL (doS s e).ns).Perm (blksL s.ns) := by
  have hm := mk_of h
  show (blksL (nsOf s e)).Perm _
  cases hm.does with
  | made k2 _ =>
    have e1 : nsOf s e = sortN (s.ns ++ [newN e]) := if_pos k2
    rw [e1]
    refine (blks_perm (sortN_perm _)).trans ?_
    rw [blks_app, blks_one]
    have : (newN e).bs = [] := rfl
    rw [this, List.append_nil]
  | rem k2 _ => omega
  | ren k2 _ => omega
  | addb k2 _ => omega
  | comp k2 _ => omega
  | setq k2 hd =>
    cases hd with
    | node _ _ h0 => exact absurd rfl h0
    | ok i x hi _ _ =>
      have e1 : nsOf s e = s.ns.set i (withQu x e.n) := by
        unfold nsOf
        rw [if_neg (by omega), if_neg (by omega), if_neg (by omega), hi.upd]
        unfold onN; rw [if_neg (by omega), if_neg (by omega), if_pos k2]
      rw [e1]
      obtain ⟨h1, h2⟩ := set_blks (y := withQu x e.n) hi.nd
      rw [h2, h1]
      exact List.Perm.refl _
  | rnw k2 _ =>
    have e1 : nsOf s e = s.ns := by
      unfold nsOf
      rw [if_neg (by omega), if_neg (by omega), if_neg (by omega)]
      exact updN_self _ _ _ (fun x _ => by unfold onN; simp [k2])
    rw [e1]
  | bump k2 _ => omega
  | reop k2 _ => omega

end Go.Proofs.YticiihjkgiookaaGreat.Spa
