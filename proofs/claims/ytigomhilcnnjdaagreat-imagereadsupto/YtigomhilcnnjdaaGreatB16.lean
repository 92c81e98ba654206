/- Part 16 of the proof: SpaceM, ImageM, SpaceP, SpaceQ, SpaceLw, SpaceLq, ImageP, ImageQ, SpaceEx. -/
import Derived.Test.YtigomhilcnnjdaaGreatB03
import Derived.Test.YtigomhilcnnjdaaGreatB04
import Derived.Test.YtigomhilcnnjdaaGreatB07
import Derived.Test.YtigomhilcnnjdaaGreatB14
import Derived.Test.YtigomhilcnnjdaaGreatB15

/- Spaces, and what an edit makes of one, in plain words. No program in it. -/
namespace Go.Proofs.YtigomhilcnnjdaaGreat.Spa
open Go.RowKit Go.Proofs.YtigomhilcnnjdaaGreat
open Go.Proofs.YtigomhilcnnjdaaGreat.Lea (LS Ls findX putL renX)
open Go.Proofs.YtigomhilcnnjdaaGreat.Edi (Ed)

/-- A space. -/
structure Sp where
  tx : Int
  nb : Int
  ng : Int
  now : Int
  ns : NS
  ls : LS
def zeroS : Sp := ⟨0, 0, 0, 0, [], []⟩
def rootN : Nd := ⟨rootP, true, -1, [], -1⟩
def newS : Sp := ⟨0, 1, 1, 0, [rootN], []⟩
def zeroB : Blk := ⟨0, 0, 0⟩
def zeroN : Nd := ⟨⟨#[]⟩, false, 0, [], 0⟩
def blksL (xs : NS) : List Blk := xs.flatMap (·.bs)

structure RtS (s : Sp) : Prop where
  tx : 0 ≤ s.tx ∧ s.tx ≤ 300
  nb : 1 ≤ s.nb ∧ s.nb ≤ 9007199254740991
  ng : 1 ≤ s.ng ∧ s.ng ≤ 9007199254740991
  now : 0 ≤ s.now ∧ s.now ≤ 9007199254740981
  tree : Right s.ns
  over : overL s.ns = []
  ids : (blksL s.ns).Pairwise (fun a b => a.id ≠ b.id)
  lo : ∀ b ∈ blksL s.ns, b.id < s.nb ∧ b.gen < s.ng
  ls : Lea.Rt s.ls
  wr : ∀ x ∈ s.ns, x.wr ≠ -1 → (findX s.ls x.wr).2 = true

/-- An answer. -/
structure An where
  err : Int
  b : Blk
  names : List ByteArray
  nd : Nd
  n : Int
def errA (E : Int) : An := ⟨E, zeroB, [], zeroN, 0⟩

/-- At p, the i-th, stands x. -/
structure Is (xs : NS) (p : ByteArray) (i : Nat) (x : Nd) : Prop where
  path : pathB p = true
  at_ : at? xs p = some i
  nd : xs[i]? = some x

inductive NodeE (xs : NS) (p : ByteArray) : Int → Prop
  | arg : pathB p = false → NodeE xs p 1
  | none : pathB p = true → at? xs p = none → NodeE xs p 5
  | ok (i : Nat) (x : Nd) : Is xs p i x → NodeE xs p 0
inductive FileE (xs : NS) (p : ByteArray) : Int → Prop
  | node (E : Int) : NodeE xs p E → E ≠ 0 → FileE xs p E
  | dir (i : Nat) (x : Nd) : Is xs p i x → x.dir = true → FileE xs p 7
  | ok (i : Nat) (x : Nd) : Is xs p i x → x.dir = false → FileE xs p 0
inductive WritE (xs : NS) (p : ByteArray) (c : Int) : Int → Prop
  | file (E : Int) : FileE xs p E → E ≠ 0 → WritE xs p c E
  | lease (i : Nat) (x : Nd) : Is xs p i x → x.dir = false → x.wr ≠ c → WritE xs p c 9
  | ok (i : Nat) (x : Nd) : Is xs p i x → x.dir = false → x.wr = c → WritE xs p c 0

def newN (e : Ed) : Nd := ⟨e.p, decide (e.k = 1), -1, [], if e.k = 2 then e.c else -1⟩
def lenB (l : Int) : Bool := decide (l ≤ 64)
structure LenOk (bs : List Blk) (ls : List Int) : Prop where
  len : ls.length = bs.length
  each : ∀ l ∈ ls, l ≤ 64
def setLens : List Blk → List Int → List Blk
  | b :: bs, l :: ls => ⟨b.id, b.gen, l⟩ :: setLens bs ls
  | _, _ => []

inductive MadeE (s : Sp) (e : Ed) : Int → Prop
  | add (E : Int) : AddE s.ns (newN e) E → E ≠ 0 → MadeE s e E
  | full : AddE s.ns (newN e) 0 → roomI s.ns (parD e.p) < 1 → MadeE s e 8
  | ok : AddE s.ns (newN e) 0 → 1 ≤ roomI s.ns (parD e.p) → MadeE s e 0
inductive RenE (s : Sp) (e : Ed) : Int → Prop
  | mov (E : Int) : MovE s.ns e.p e.t E → E ≠ 0 → RenE s e E
  | full : MovE s.ns e.p e.t 0 → overL (movL s.ns e.p e.t) ≠ [] → RenE s e 8
  | ok : MovE s.ns e.p e.t 0 → overL (movL s.ns e.p e.t) = [] → RenE s e 0
/-- Whom e's client writes, and the lengths fit. -/
structure Wr (s : Sp) (e : Ed) (i : Nat) (x : Nd) : Prop where
  is : Is s.ns e.p i x
  dir : x.dir = false
  wr : x.wr = e.c
inductive AddBE (s : Sp) (e : Ed) : Int → Prop
  | writ (E : Int) : WritE s.ns e.p e.c E → E ≠ 0 → AddBE s e E
  | arg (i : Nat) (x : Nd) : Wr s e i x → ¬ LenOk x.bs e.ls → AddBE s e 1
  | long (i : Nat) (x : Nd) : Wr s e i x → LenOk x.bs e.ls → (x.bs.length = 8 ∨ s.nb = 9007199254740991 ∨ s.ng = 9007199254740991) → AddBE s e 4
  | ok (i : Nat) (x : Nd) : Wr s e i x → LenOk x.bs e.ls → x.bs.length ≠ 8 → s.nb ≠ 9007199254740991 → s.ng ≠ 9007199254740991 → AddBE s e 0
inductive CompE (s : Sp) (e : Ed) : Int → Prop
  | writ (E : Int) : WritE s.ns e.p e.c E → E ≠ 0 → CompE s e E
  | arg (i : Nat) (x : Nd) : Wr s e i x → ¬ LenOk x.bs e.ls → CompE s e 1
  | ok (i : Nat) (x : Nd) : Wr s e i x → LenOk x.bs e.ls → CompE s e 0
inductive BumpE (s : Sp) (e : Ed) : Int → Prop
  | writ (E : Int) : WritE s.ns e.p e.c E → E ≠ 0 → BumpE s e E
  | arg (i : Nat) (x : Nd) : Wr s e i x → (x.bs.length : Int) ≤ e.n → BumpE s e 1
  | long (i : Nat) (x : Nd) : Wr s e i x → e.n < (x.bs.length : Int) → s.ng = 9007199254740991 → BumpE s e 4
  | ok (i : Nat) (x : Nd) : Wr s e i x → e.n < (x.bs.length : Int) → s.ng ≠ 9007199254740991 → BumpE s e 0
inductive ReopE (s : Sp) (e : Ed) : Int → Prop
  | file (E : Int) : FileE s.ns e.p E → E ≠ 0 → ReopE s e E
  | lease (i : Nat) (x : Nd) : Is s.ns e.p i x → x.dir = false → x.wr ≠ -1 → ReopE s e 9
  | ok (i : Nat) (x : Nd) : Is s.ns e.p i x → x.dir = false → x.wr = -1 → ReopE s e 0
inductive SetQE (s : Sp) (e : Ed) : Int → Prop
  | node (E : Int) : NodeE s.ns e.p E → E ≠ 0 → SetQE s e E
  | dir (i : Nat) (x : Nd) : Is s.ns e.p i x → x.dir = false → SetQE s e 7
  | full (i : Nat) (x : Nd) : Is s.ns e.p i x → x.dir = true → e.n ≠ -1 → e.n < (cntL s.ns e.p : Int) → SetQE s e 8
  | ok (i : Nat) (x : Nd) : Is s.ns e.p i x → x.dir = true → (e.n ≠ -1 → (cntL s.ns e.p : Int) ≤ e.n) → SetQE s e 0
inductive RnwE (s : Sp) (e : Ed) : Int → Prop
  | arg : ¬ (s.now ≤ e.n ∧ e.n ≤ 9007199254740981) → RnwE s e 1
  | ok : s.now ≤ e.n → e.n ≤ 9007199254740981 → RnwE s e 0
inductive DoE (s : Sp) (e : Ed) : Int → Prop
  | made (E : Int) : (e.k = 1 ∨ e.k = 2) → MadeE s e E → DoE s e E
  | rem (E : Int) : e.k = 3 → RemE s.ns e.p E → DoE s e E
  | ren (E : Int) : e.k = 4 → RenE s e E → DoE s e E
  | addb (E : Int) : e.k = 5 → AddBE s e E → DoE s e E
  | comp (E : Int) : e.k = 6 → CompE s e E → DoE s e E
  | setq (E : Int) : e.k = 7 → SetQE s e E → DoE s e E
  | rnw (E : Int) : e.k = 8 → RnwE s e E → DoE s e E
  | bump (E : Int) : e.k = 9 → BumpE s e E → DoE s e E
  | reop (E : Int) : e.k = 10 → ReopE s e E → DoE s e E
inductive AppE (s : Sp) (e : Ed) : Int → Prop
  | arg : ¬ (RtS s ∧ Edi.Rt e) → AppE s e 1
  | long : RtS s → Edi.Rt e → s.tx = 300 → AppE s e 4
  | does (E : Int) : RtS s → Edi.Rt e → s.tx ≠ 300 → DoE s e E → AppE s e E

/-! ### there is always one -/
theorem Is.lt {xs : NS} {p : ByteArray} {i : Nat} {x : Nd} (h : Is xs p i x) : i < xs.length := (List.getElem?_eq_some_iff.1 h.nd).1
theorem Is.get {xs : NS} {p : ByteArray} {i : Nat} {x : Nd} (h : Is xs p i x) : xs[i]'h.lt = x := (List.getElem?_eq_some_iff.1 h.nd).2
theorem Is.mem {xs : NS} {p : ByteArray} {i : Nat} {x : Nd} (h : Is xs p i x) : x ∈ xs := List.mem_of_getElem? h.nd
theorem Is.eq {xs : NS} {p : ByteArray} {i : Nat} {x : Nd} (h : Is xs p i x) : x.path = p := by
  obtain ⟨hi, h1, _⟩ := at_some h.at_
  rw [← h.get]; exact h1
theorem Is.find {xs : NS} {p : ByteArray} {i : Nat} {x : Nd} (h : Is xs p i x) : findI xs p = (i : Int) := by unfold findI; rw [h.at_]
theorem Is.one {xs : NS} {p : ByteArray} {i j : Nat} {x y : Nd} (h : Is xs p i x) (k : Is xs p j y) : i = j ∧ x = y := by
  have e : some i = some j := h.at_.symm.trans k.at_
  cases e
  have := h.nd.symm.trans k.nd
  cases this
  exact ⟨rfl, rfl⟩

theorem node_cases (xs : NS) (p : ByteArray) : pathB p = false ∨ (pathB p = true ∧ at? xs p = none) ∨ ∃ i x, Is xs p i x := by
  cases h : pathB p with
  | false => exact .inl rfl
  | true =>
    cases h2 : at? xs p with
    | none => exact .inr (.inl ⟨rfl, rfl⟩)
    | some i =>
      obtain ⟨hi, _⟩ := at_some h2
      exact .inr (.inr ⟨i, xs[i], h, h2, List.getElem?_eq_getElem hi⟩)
theorem file_cases (xs : NS) (p : ByteArray) : (∃ E, FileE xs p E ∧ E ≠ 0) ∨ ∃ i x, Is xs p i x ∧ x.dir = false := by
  rcases node_cases xs p with h | ⟨h, h2⟩ | ⟨i, x, h⟩
  · exact .inl ⟨1, .node 1 (.arg h) (by decide), by decide⟩
  · exact .inl ⟨5, .node 5 (.none h h2) (by decide), by decide⟩
  · cases hd : x.dir with
    | true => exact .inl ⟨7, .dir i x h hd, by decide⟩
    | false => exact .inr ⟨i, x, h, hd⟩
theorem writ_cases (s : Sp) (e : Ed) : (∃ E, WritE s.ns e.p e.c E ∧ E ≠ 0) ∨ ∃ i x, Wr s e i x := by
  rcases file_cases s.ns e.p with ⟨E, h, h0⟩ | ⟨i, x, h, hd⟩
  · exact .inl ⟨E, .file E h h0, h0⟩
  · by_cases hw : x.wr = e.c
    · exact .inr ⟨i, x, h, hd, hw⟩
    · exact .inl ⟨9, .lease i x h hd hw, by decide⟩

theorem doE_any {s : Sp} {e : Ed} (h : Edi.Rt e) : ∃ E, DoE s e E := by
  have hk := Edi.inB_iff.1 h.kind
  have hk2 : (e.k = 1 ∨ e.k = 2) ∨ e.k = 3 ∨ e.k = 4 ∨ e.k = 5 ∨ e.k = 6 ∨ e.k = 7 ∨ e.k = 8 ∨ e.k = 9 ∨ e.k = 10 := by omega
  rcases hk2 with k | k | k | k | k | k | k | k | k
  · obtain ⟨E, hE⟩ := addE_any s.ns (newN e)
    by_cases h0 : E = 0
    · subst h0
      by_cases hr : roomI s.ns (parD e.p) < 1
      · exact ⟨8, .made _ k (.full hE hr)⟩
      · exact ⟨0, .made _ k (.ok hE (by omega))⟩
    · exact ⟨E, .made _ k (.add E hE h0)⟩
  · obtain ⟨E, hE⟩ := remE_any s.ns e.p
    exact ⟨E, .rem _ k hE⟩
  · obtain ⟨E, hE⟩ := movE_any s.ns e.p e.t
    by_cases h0 : E = 0
    · subst h0
      by_cases hr : overL (movL s.ns e.p e.t) = []
      · exact ⟨0, .ren _ k (.ok hE hr)⟩
      · exact ⟨8, .ren _ k (.full hE hr)⟩
    · exact ⟨E, .ren _ k (.mov E hE h0)⟩
  · rcases writ_cases s e with ⟨E, hE, h0⟩ | ⟨i, x, hw⟩
    · exact ⟨E, .addb _ k (.writ E hE h0)⟩
    · by_cases hl : LenOk x.bs e.ls
      · by_cases h8 : x.bs.length = 8 ∨ s.nb = 9007199254740991 ∨ s.ng = 9007199254740991
        · exact ⟨4, .addb _ k (.long i x hw hl h8)⟩
        · exact ⟨0, .addb _ k (.ok i x hw hl (fun e => h8 (.inl e)) (fun e => h8 (.inr (.inl e))) (fun e => h8 (.inr (.inr e))))⟩
      · exact ⟨1, .addb _ k (.arg i x hw hl)⟩
  · rcases writ_cases s e with ⟨E, hE, h0⟩ | ⟨i, x, hw⟩
    · exact ⟨E, .comp _ k (.writ E hE h0)⟩
    · by_cases hl : LenOk x.bs e.ls
      · exact ⟨0, .comp _ k (.ok i x hw hl)⟩
      · exact ⟨1, .comp _ k (.arg i x hw hl)⟩
  · rcases node_cases s.ns e.p with h | ⟨h, h2⟩ | ⟨i, x, h⟩
    · exact ⟨1, .setq _ k (.node 1 (.arg h) (by decide))⟩
    · exact ⟨5, .setq _ k (.node 5 (.none h h2) (by decide))⟩
    · cases hd : x.dir with
      | false => exact ⟨7, .setq _ k (.dir i x h hd)⟩
      | true =>
        by_cases hn : e.n ≠ -1 ∧ e.n < (cntL s.ns e.p : Int)
        · exact ⟨8, .setq _ k (.full i x h hd hn.1 hn.2)⟩
        · exact ⟨0, .setq _ k (.ok i x h hd (fun e1 => by
            have : ¬ (e.n < (cntL s.ns e.p : Int)) := fun e2 => hn ⟨e1, e2⟩
            omega))⟩
  · by_cases hn : s.now ≤ e.n ∧ e.n ≤ 9007199254740981
    · exact ⟨0, .rnw _ k (.ok hn.1 hn.2)⟩
    · exact ⟨1, .rnw _ k (.arg hn)⟩
  · rcases writ_cases s e with ⟨E, hE, h0⟩ | ⟨i, x, hw⟩
    · exact ⟨E, .bump _ k (.writ E hE h0)⟩
    · by_cases hl : (x.bs.length : Int) ≤ e.n
      · exact ⟨1, .bump _ k (.arg i x hw hl)⟩
      · by_cases hg : s.ng = 9007199254740991
        · exact ⟨4, .bump _ k (.long i x hw (by omega) hg)⟩
        · exact ⟨0, .bump _ k (.ok i x hw (by omega) hg)⟩
  · rcases file_cases s.ns e.p with ⟨E, hE, h0⟩ | ⟨i, x, hw, hd⟩
    · exact ⟨E, .reop _ k (.file E hE h0)⟩
    · by_cases hl : x.wr = -1
      · exact ⟨0, .reop _ k (.ok i x hw hd hl)⟩
      · exact ⟨9, .reop _ k (.lease i x hw hd hl)⟩
theorem appE_any (s : Sp) (e : Ed) : ∃ E, AppE s e E := by
  by_cases h : RtS s ∧ Edi.Rt e
  · by_cases ht : s.tx = 300
    · exact ⟨4, .long h.1 h.2 ht⟩
    · obtain ⟨E, hE⟩ := doE_any (s := s) h.2
      exact ⟨E, .does E h.1 h.2 ht hE⟩
  · exact ⟨1, .arg h⟩

/-! ### what comes -/
def updN (xs : NS) (p : ByteArray) (f : Nd → Nd) : NS := match at? xs p with
  | none => xs
  | some i => match xs[i]? with
    | none => xs
    | some x => xs.set i (f x)
def withBs (x : Nd) (bs : List Blk) : Nd := ⟨x.path, x.dir, x.quota, bs, x.wr⟩
def withWr (x : Nd) (c : Int) : Nd := ⟨x.path, x.dir, x.quota, x.bs, c⟩
def withQu (x : Nd) (q : Int) : Nd := ⟨x.path, x.dir, q, x.bs, x.wr⟩
def setGen : List Blk → Nat → Int → List Blk
  | [], _, _ => []
  | b :: bs, 0, g => ⟨b.id, g, b.len⟩ :: bs
  | b :: bs, n + 1, g => b :: setGen bs n g
/-- What an edit makes of the node at its path. -/
def onN (s : Sp) (e : Ed) (x : Nd) : Nd :=
  if e.k = 5 then withBs x (setLens x.bs e.ls ++ [⟨s.nb, s.ng, 0⟩])
  else if e.k = 6 then withWr (withBs x (setLens x.bs e.ls)) (-1)
  else if e.k = 7 then withQu x e.n
  else if e.k = 9 then withBs x (setGen x.bs e.n.toNat s.ng)
  else if e.k = 10 then withWr x e.c
  else x
def nsOf (s : Sp) (e : Ed) : NS :=
  if e.k = 1 ∨ e.k = 2 then sortN (s.ns ++ [newN e])
  else if e.k = 3 then leftL s.ns e.p
  else if e.k = 4 then movL s.ns e.p e.t
  else updN s.ns e.p (onN s e)
def nowOf (s : Sp) (e : Ed) : Int := if e.k = 8 then e.n else s.now
def lsOf (s : Sp) (e : Ed) : LS := if e.k = 2 ∨ e.k = 8 ∨ e.k = 10 then (renX s.ls e.c (nowOf s e)).1 else s.ls
def doS (s : Sp) (e : Ed) : Sp := ⟨s.tx + 1, if e.k = 5 then s.nb + 1 else s.nb, if e.k = 5 ∨ e.k = 9 then s.ng + 1 else s.ng, nowOf s e, nsOf s e, lsOf s e⟩
def nodeOr (xs : NS) (p : ByteArray) : Nd := match at? xs p with
  | none => zeroN
  | some i => xs.getD i zeroN
def blkOf (s : Sp) (e : Ed) : Blk :=
  if e.k = 5 then ⟨s.nb, s.ng, 0⟩
  else if e.k = 9 then (setGen (nodeOr s.ns e.p).bs e.n.toNat s.ng).getD e.n.toNat zeroB
  else zeroB
def ndOf (s : Sp) (e : Ed) : Nd :=
  if e.k = 2 then newN e
  else if e.k = 5 ∨ e.k = 6 ∨ e.k = 9 ∨ e.k = 10 then onN s e (nodeOr s.ns e.p)
  else zeroN
def appS (s : Sp) (e : Ed) (E : Int) : Sp := if E = 0 then doS s e else zeroS
def appA (s : Sp) (e : Ed) (E : Int) : An := if E = 0 then ⟨0, blkOf s e, [], ndOf s e, 0⟩ else errA E

theorem Is.nodeOr {xs : NS} {p : ByteArray} {i : Nat} {x : Nd} (h : Is xs p i x) : nodeOr xs p = x := by
  unfold Spa.nodeOr; rw [h.at_]; simp [h.nd]
theorem Is.upd {xs : NS} {p : ByteArray} {i : Nat} {x : Nd} (h : Is xs p i x) (f : Nd → Nd) : updN xs p f = xs.set i (f x) := by
  unfold updN; rw [h.at_]; simp [h.nd]
theorem updN_self (xs : NS) (p : ByteArray) (f : Nd → Nd) (h : ∀ x ∈ xs, f x = x) : updN xs p f = xs := by
  unfold updN
  split
  · rfl
  · rename_i i hi
    split
    · rfl
    · rename_i x hx
      rw [h x (List.mem_of_getElem? hx)]
      obtain ⟨h1, rfl⟩ := List.getElem?_eq_some_iff.1 hx
      exact List.set_getElem_self h1

theorem setLens_len : ∀ (bs : List Blk) (ls : List Int), ls.length = bs.length → (setLens bs ls).length = bs.length
  | [], [], _ => rfl
  | b :: bs, l :: ls, h => by simp [setLens]; exact setLens_len bs ls (by simpa using h)
  | [], l :: ls, h => by simp at h
  | b :: bs, [], h => by simp at h
theorem setLens_at : ∀ (bs : List Blk) (ls : List Int) (h : ls.length = bs.length) (j : Nat) (hj : j < (setLens bs ls).length), (setLens bs ls)[j] = ⟨(bs[j]'(by rw [setLens_len _ _ h] at hj; exact hj)).id, (bs[j]'(by rw [setLens_len _ _ h] at hj; exact hj)).gen, ls[j]'(by rw [setLens_len _ _ h] at hj; omega)⟩
  | [], [], _, j, hj => by simp [setLens] at hj
  | b :: bs, l :: ls, h, 0, hj => by simp [setLens]
  | b :: bs, l :: ls, h, j + 1, hj => by
    simp only [setLens, List.getElem_cons_succ]
    exact setLens_at bs ls (by simpa using h) j _
  | [], l :: ls, h, _, _ => by simp at h
  | b :: bs, [], h, _, _ => by simp at h
theorem setGen_len : ∀ (bs : List Blk) (n : Nat) (g : Int), (setGen bs n g).length = bs.length
  | [], _, _ => rfl
  | b :: bs, 0, g => rfl
  | b :: bs, n + 1, g => by simp [setGen, setGen_len bs n g]
theorem setGen_set : ∀ (bs : List Blk) (n : Nat) (g : Int) (h : n < bs.length), setGen bs n g = bs.set n ⟨bs[n].id, g, bs[n].len⟩
  | [], _, _, h => by simp at h
  | b :: bs, 0, g, _ => rfl
  | b :: bs, n + 1, g, h => by
    have := setGen_set bs n g (by simpa using h)
    simp [setGen, this]

end Go.Proofs.YtigomhilcnnjdaaGreat.Spa

/- The bytes of a space, and how they are read, in plain words. No program in it. -/
namespace Go.Proofs.YtigomhilcnnjdaaGreat.Img
open Go.RowKit Go.Proofs.YtigomhilcnnjdaaGreat Go.Proofs.YtigomhilcnnjdaaGreat.Smm
open Go.Proofs.YtigomhilcnnjdaaGreat.Spa (Sp RtS zeroS newS rootN)
open Go.Proofs.YtigomhilcnnjdaaGreat.Lea (LS Ls)
open Go.Proofs.YtigomhilcnnjdaaGreat.Edi (numsB numsB_len numsB_snoc takeN takeN_back takeN_sound takeN_size takeT_back2)
open Go.Proofs.YtigomhilcnnjdaaGreat.Wir (textB textB_data takeT takeT_sound takeT_back text_prefix app_list app_size app_assoc size_list mk_size numB_len numB_prefix)
open Go.WideShapes (bytes_inj)

abbrev I64 (z : Int) : Prop := -9223372036854775808 ≤ z ∧ z ≤ 9223372036854775807
def mk (l : List UInt8) : ByteArray := ⟨l.toArray⟩
theorem mk_li (l : List UInt8) : (mk l).data.toList = l := by simp [mk]
theorem mk_sz2 (l : List UInt8) : (mk l).size = l.length := by rw [← size_list, mk_li]
theorem mk_app (a b : List UInt8) : mk (a ++ b) = mk a ++ mk b := bytes_inj (by rw [app_list, mk_li, mk_li, mk_li])

/-! ### the bytes -/
def headZ (s : Sp) : List Int := [s.tx, s.nb, s.ng, s.now, (s.ns.length : Int), (s.ls.length : Int)]
def headL (zs : List Int) : ByteArray := mk (84 :: numsB zs)
def blkZ (bs : List Blk) : List Int := bs.flatMap fun b => [b.id, b.gen, b.len]
def kindZ (d : Bool) : Int := if d then 1 else 0
def nodeZ (x : Nd) : List Int := [kindZ x.dir, x.quota, x.wr, (x.bs.length : Int)] ++ blkZ x.bs
def nodeP (x : Nd) : ByteArray := textB x.path ++ mk (numsB (nodeZ x))
def leaseP (l : Ls) : ByteArray := mk (numsB [l.c, l.u])
def partsS (s : Sp) : List ByteArray := headL (headZ s) :: (s.ns.map nodeP ++ s.ls.map leaseP)
/-- The parts, each sealed, one behind the other. -/
def joinL (ps : List ByteArray) : List UInt8 := ps.flatMap fun p => (sealB p).data.toList
def joinP (ps : List ByteArray) : ByteArray := mk (joinL ps)
def encI (s : Sp) : ByteArray := joinP (partsS s)

theorem joinL_app (a b : List ByteArray) : joinL (a ++ b) = joinL a ++ joinL b := by simp [joinL]
theorem joinL_cons (a : ByteArray) (b : List ByteArray) : joinL (a :: b) = (sealB a).data.toList ++ joinL b := by simp [joinL]
theorem joinP_nil : joinP [] = ⟨#[]⟩ := rfl
theorem joinP_app (a b : List ByteArray) : joinP (a ++ b) = joinP a ++ joinP b := by unfold joinP; rw [joinL_app, mk_app]
theorem joinP_cons (a : ByteArray) (b : List ByteArray) : joinP (a :: b) = sealB a ++ joinP b := by
  unfold joinP
  refine bytes_inj ?_
  rw [app_list, mk_li, mk_li, joinL_cons]
theorem numsB_app (a b : List Int) : numsB (a ++ b) = numsB a ++ numsB b := by simp [numsB]
theorem numsB_cons (a : Int) (b : List Int) : numsB (a :: b) = Wir.numB a ++ numsB b := by simp [numsB]
theorem numsB_nil : numsB [] = [] := rfl

/-! ### what fits -/
structure FitX (x : Nd) : Prop where
  path : x.path.size ≤ 4000
  few : x.bs.length ≤ 8
  q : I64 x.quota
  wr : I64 x.wr
  bs : ∀ b ∈ x.bs, I64 b.id ∧ I64 b.gen ∧ I64 b.len
structure FitL (l : Ls) : Prop where
  c : I64 l.c
  u : I64 l.u
structure FitS (s : Sp) : Prop where
  tx : I64 s.tx
  nb : I64 s.nb
  ng : I64 s.ng
  now : I64 s.now
  ns : ∀ x ∈ s.ns, FitX x
  ls : ∀ l ∈ s.ls, FitL l
  many : s.ns.length ≤ 9223372036854775807 ∧ s.ls.length ≤ 9223372036854775807

theorem blkZ_len (bs : List Blk) : (blkZ bs).length = 3 * bs.length := by
  induction bs with
  | nil => rfl
  | cons b r ih => simp [blkZ] at ih ⊢; omega
theorem blkZ_cons (b : Blk) (bs : List Blk) : blkZ (b :: bs) = b.id :: b.gen :: b.len :: blkZ bs := by simp [blkZ]
theorem blkZ_snoc (bs : List Blk) (b : Blk) : blkZ (bs ++ [b]) = blkZ bs ++ [b.id, b.gen, b.len] := by simp [blkZ]
theorem blkZ_inj : ∀ {a b : List Blk}, blkZ a = blkZ b → a = b
  | [], [], _ => rfl
  | [], b :: r, h => by simp [blkZ] at h
  | a :: r, [], h => by simp [blkZ] at h
  | ⟨a1, a2, a3⟩ :: r, ⟨b1, b2, b3⟩ :: r', h => by
    rw [blkZ_cons, blkZ_cons] at h
    simp only [List.cons.injEq] at h
    obtain ⟨rfl, rfl, rfl, h⟩ := h
    rw [blkZ_inj h]
theorem blkZ_i64 {bs : List Blk} (h : ∀ b ∈ bs, I64 b.id ∧ I64 b.gen ∧ I64 b.len) : ∀ z ∈ blkZ bs, I64 z := by
  intro z hz
  obtain ⟨b, hb, hz⟩ := List.mem_flatMap.1 hz
  have := h b hb
  simp at hz
  rcases hz with rfl | rfl | rfl
  · exact this.1
  · exact this.2.1
  · exact this.2.2
theorem kindZ_i64 (d : Bool) : I64 (kindZ d) := by unfold kindZ I64; cases d <;> simp
theorem kindZ_inj {a b : Bool} (h : kindZ a = kindZ b) : a = b := by unfold kindZ at h; cases a <;> cases b <;> simp at h ⊢
theorem FitX.zs {x : Nd} (h : FitX x) : ∀ z ∈ nodeZ x, I64 z := by
  intro z hz
  unfold nodeZ at hz
  rcases List.mem_append.1 hz with hz | hz
  · have h8 := h.few
    simp at hz
    rcases hz with rfl | rfl | rfl | rfl
    · exact kindZ_i64 _
    · exact h.q
    · exact h.wr
    · unfold I64; omega
  · exact blkZ_i64 h.bs z hz
theorem FitS.hz {s : Sp} (h : FitS s) : ∀ z ∈ headZ s, I64 z := by
  intro z hz
  have := h.many
  simp [headZ] at hz
  rcases hz with rfl | rfl | rfl | rfl | rfl | rfl
  · exact h.tx
  · exact h.nb
  · exact h.ng
  · exact h.now
  · unfold I64; omega
  · unfold I64; omega
theorem FitL.zs {l : Ls} (h : FitL l) : ∀ z ∈ [l.c, l.u], I64 z := by
  intro z hz
  simp at hz
  rcases hz with rfl | rfl
  · exact h.c
  · exact h.u

/-! ### one form alone -/
theorem numsB_inj : ∀ {a b : List Int} {r r' : List UInt8}, a.length = b.length → numsB a ++ r = numsB b ++ r' → a = b ∧ r = r'
  | [], [], _, _, _, h => ⟨rfl, by simpa [numsB] using h⟩
  | [], _ :: _, _, _, h, _ => by simp at h
  | _ :: _, [], _, _, h, _ => by simp at h
  | x :: a, y :: b, r, r', hl, h => by
    rw [numsB_cons, numsB_cons, List.append_assoc, List.append_assoc] at h
    obtain ⟨h1, h2⟩ := numB_prefix h
    obtain ⟨h3, h4⟩ := numsB_inj (by simpa using hl) h2
    exact ⟨by rw [h1, h3], h4⟩
theorem headL_inj {a b : List Int} {r r' : List UInt8} (hl : a.length = b.length) (h : (headL a).data.toList ++ r = (headL b).data.toList ++ r') : a = b ∧ r = r' := by
  unfold headL at h
  rw [mk_li, mk_li, List.cons_append, List.cons_append] at h
  exact numsB_inj hl (List.cons.inj h).2
theorem leaseP_inj {a b : Ls} {r r' : List UInt8} (h : (leaseP a).data.toList ++ r = (leaseP b).data.toList ++ r') : a = b ∧ r = r' := by
  unfold leaseP at h
  rw [mk_li, mk_li] at h
  obtain ⟨h1, h2⟩ := numsB_inj (by simp) h
  simp only [List.cons.injEq, and_true] at h1
  exact ⟨by cases a; cases b; simp_all, h2⟩
theorem nodeP_list (x : Nd) : (nodeP x).data.toList = (textB x.path).data.toList ++ numsB (nodeZ x) := by unfold nodeP; rw [app_list, mk_li]
theorem nodeP_inj {a b : Nd} {r r' : List UInt8} (h : (nodeP a).data.toList ++ r = (nodeP b).data.toList ++ r') : a = b ∧ r = r' := by
  rw [nodeP_list, nodeP_list, List.append_assoc, List.append_assoc] at h
  obtain ⟨h1, h2⟩ := text_prefix h
  unfold nodeZ at h2
  rw [numsB_app, numsB_app, List.append_assoc, List.append_assoc] at h2
  obtain ⟨h3, h4⟩ := numsB_inj (by simp) h2
  simp only [List.cons.injEq, and_true] at h3
  obtain ⟨k1, k2, k3, k4⟩ := h3
  obtain ⟨h5, h6⟩ := numsB_inj (by rw [blkZ_len, blkZ_len]; omega) h4
  have k5 := blkZ_inj h5
  have k6 := kindZ_inj k1
  refine ⟨?_, h6⟩
  obtain ⟨a1, a2, a3, a4, a5⟩ := a
  obtain ⟨b1, b2, b3, b4, b5⟩ := b
  simp only at h1 k2 k3 k5 k6
  subst h1 k2 k3 k5 k6
  rfl
theorem same_of_nil {α : Type} {f : α → ByteArray} (hf : ∀ {a b : α} {r r' : List UInt8}, (f a).data.toList ++ r = (f b).data.toList ++ r' → a = b ∧ r = r') {a b : α} (h : f a = f b) : a = b :=
  (hf (r := []) (r' := []) (by rw [h])).1
theorem map_inj {α : Type} {f : α → ByteArray} (hf : ∀ {a b : α}, f a = f b → a = b) : ∀ {xs ys : List α}, xs.map f = ys.map f → xs = ys
  | [], [], _ => rfl
  | [], _ :: _, h => by simp at h
  | _ :: _, [], h => by simp at h
  | x :: xs, y :: ys, h => by
    simp only [List.map_cons, List.cons.injEq] at h
    rw [hf h.1, map_inj hf h.2]
theorem partsS_inj {s t : Sp} (h : partsS s = partsS t) : s = t := by
  unfold partsS at h
  simp only [List.cons.injEq] at h
  obtain ⟨h1, h2⟩ := h
  have h3 := (headL_inj (a := headZ s) (b := headZ t) (r := []) (r' := []) rfl (by rw [h1])).1
  simp only [headZ, List.cons.injEq, and_true] at h3
  obtain ⟨k1, k2, k3, k4, k5, k6⟩ := h3
  have hl : (s.ns.map nodeP).length = (t.ns.map nodeP).length := by rw [List.length_map, List.length_map]; omega
  obtain ⟨h4, h5⟩ := List.append_inj h2 hl
  have h6 := map_inj (fun {a b} h => same_of_nil (f := nodeP) nodeP_inj h) h4
  have h7 := map_inj (fun {a b} h => same_of_nil (f := leaseP) leaseP_inj h) h5
  obtain ⟨s1, s2, s3, s4, s5, s6⟩ := s
  obtain ⟨t1, t2, t3, t4, t5, t6⟩ := t
  simp only at k1 k2 k3 k4 h6 h7
  subst k1 k2 k3 k4 h6 h7
  rfl

/-! ### parts that are opened -/
theorem open_sound {b T R : ByteArray} (h : openT b = (T, R, 0)) : b = sealB T ++ R ∧ T.size ≤ 4000 := by
  rcases openT_cases b with ⟨_, h1⟩ | ⟨t, r, hT, h1⟩
  · rw [h1] at h; cases h
  · rcases h1 with ⟨_, h1⟩ | ⟨h4, he, h1⟩ | ⟨_, _, h1⟩
    · rw [h1] at h; cases h
    · rw [h1] at h
      simp only [Prod.mk.injEq, and_true] at h
      obtain ⟨rfl, rfl⟩ := h
      obtain ⟨k1, k2⟩ := takeT_sound hT
      refine ⟨bytes_inj ?_, k2⟩
      rw [app_list, k1]
      unfold sealB
      rw [app_list, List.append_assoc, ← he, Wir.cut_list, Wir.ext_list, List.take_append_drop]
    · rw [h1] at h; cases h
theorem sealB_pos (s : ByteArray) : 5 ≤ (sealB s).size := by
  have := Wir.numB_pos (s.size : Int)
  rw [sealB_size]; omega
theorem seal_inj {p q r r' : ByteArray} (hp : p.size ≤ 4000) (hq : q.size ≤ 4000) (h : sealB p ++ r = sealB q ++ r') : p = q ∧ r = r' := by
  have h1 := open_back p r hp
  rw [h, open_back q r' hq] at h1
  simp only [Prod.mk.injEq, and_true] at h1
  exact ⟨h1.1.symm, h1.2.symm⟩
abbrev Small (ps : List ByteArray) : Prop := ∀ p ∈ ps, p.size ≤ 4000
theorem joinP_ne {p : ByteArray} {ps : List ByteArray} : joinP (p :: ps) ≠ ⟨#[]⟩ := by
  intro h
  have h1 := congrArg ByteArray.size h
  rw [joinP_cons, app_size] at h1
  have h2 := sealB_pos p
  have h3 : (⟨#[]⟩ : ByteArray).size = 0 := rfl
  omega
theorem joinP_inj : ∀ {ps qs : List ByteArray}, Small ps → Small qs → joinP ps = joinP qs → ps = qs
  | [], [], _, _, _ => rfl
  | [], _ :: _, _, _, h => absurd h.symm joinP_ne
  | _ :: _, [], _, _, h => absurd h joinP_ne
  | p :: ps, q :: qs, hp, hq, h => by
    rw [joinP_cons, joinP_cons] at h
    obtain ⟨h1, h2⟩ := seal_inj (hp p (List.mem_cons_self ..)) (hq q (List.mem_cons_self ..)) h
    rw [h1, joinP_inj (fun x hx => hp x (List.mem_cons_of_mem _ hx)) (fun x hx => hq x (List.mem_cons_of_mem _ hx)) h2]
/-- What is behind some parts can't be opened: its error. -/
structure BadAt (r : ByteArray) (e : Nat) : Prop where
  pos : r.size ≠ 0
  ex : ∃ T R, openT r = (T, R, e)
  ne : e ≠ 0
theorem BadAt.empty {r : ByteArray} {e : Nat} (h : BadAt r e) : openT r = (⟨#[]⟩, ⟨#[]⟩, e) := by
  obtain ⟨T, R, h1⟩ := h.ex
  rcases openT_cases r with ⟨_, h2⟩ | ⟨t, r', hT, h2⟩
  · rw [h1] at h2; simp only [Prod.mk.injEq] at h2; rw [h1, h2.1, h2.2.1]
  · rcases h2 with ⟨_, h2⟩ | ⟨_, _, h2⟩ | ⟨_, _, h2⟩
    · rw [h1] at h2; simp only [Prod.mk.injEq] at h2; rw [h1, h2.1, h2.2.1]
    · rw [h1] at h2; simp only [Prod.mk.injEq] at h2; exact absurd h2.2.2 h.ne
    · rw [h1] at h2; simp only [Prod.mk.injEq] at h2; rw [h1, h2.1, h2.2.1]
theorem not_bad {p r : ByteArray} {e : Nat} (hp : p.size ≤ 4000) (h : BadAt (sealB p ++ r) e) : False := by
  obtain ⟨T, R, h1⟩ := h.ex
  rw [open_back p r hp] at h1
  simp only [Prod.mk.injEq] at h1
  exact h.ne h1.2.2.symm
theorem bad_inj : ∀ {ps qs : List ByteArray} {r r' : ByteArray} {e e' : Nat}, Small ps → Small qs → BadAt r e → BadAt r' e' → joinP ps ++ r = joinP qs ++ r' → e = e'
  | [], [], r, r', e, e', _, _, h, h', he => by
    have : r = r' := by
      have := congrArg (fun x => x.data.toList) he
      simp only [app_list] at this
      exact bytes_inj this
    subst this
    have h1 := h.empty
    rw [h'.empty] at h1
    simp only [Prod.mk.injEq, true_and] at h1
    exact h1.symm
  | [], q :: qs, r, r', e, e', _, hq, h, _, he => by
    have : r = sealB q ++ (joinP qs ++ r') := by
      rw [← app_assoc, ← joinP_cons, ← he]
      exact bytes_inj (by rw [app_list]; rfl)
    rw [this] at h
    exact (not_bad (hq q (List.mem_cons_self ..)) h).elim
  | p :: ps, [], r, r', e, e', hp, _, _, h', he => by
    have : r' = sealB p ++ (joinP ps ++ r) := by
      rw [← app_assoc, ← joinP_cons, he]
      exact bytes_inj (by rw [app_list]; rfl)
    rw [this] at h'
    exact (not_bad (hp p (List.mem_cons_self ..)) h').elim
  | p :: ps, q :: qs, r, r', e, e', hp, hq, h, h', he => by
    rw [joinP_cons, joinP_cons, app_assoc, app_assoc] at he
    obtain ⟨_, h2⟩ := seal_inj (hp p (List.mem_cons_self ..)) (hq q (List.mem_cons_self ..)) he
    exact bad_inj (fun x hx => hp x (List.mem_cons_of_mem _ hx)) (fun x hx => hq x (List.mem_cons_of_mem _ hx)) h h' h2
theorem ok_bad : ∀ {ps qs : List ByteArray} {r' : ByteArray} {e' : Nat}, Small ps → Small qs → BadAt r' e' → joinP ps = joinP qs ++ r' → False
  | [], qs, r', e', _, _, h', he => by
    have h1 := congrArg ByteArray.size he
    rw [app_size] at h1
    have h3 : (joinP []).size = 0 := rfl
    exact h'.pos (by omega)
  | p :: ps, [], r', e', hp, _, h', he => by
    have : r' = sealB p ++ joinP ps := by
      rw [← joinP_cons, he]
      exact bytes_inj (by rw [app_list]; rfl)
    rw [this] at h'
    exact not_bad (hp p (List.mem_cons_self ..)) h'
  | p :: ps, q :: qs, r', e', hp, hq, h', he => by
    rw [joinP_cons, joinP_cons, app_assoc] at he
    obtain ⟨_, h2⟩ := seal_inj (hp p (List.mem_cons_self ..)) (hq q (List.mem_cons_self ..)) he
    exact ok_bad (fun x hx => hp x (List.mem_cons_of_mem _ hx)) (fun x hx => hq x (List.mem_cons_of_mem _ hx)) h' h2
/-- How bytes are opened: the parts, the error. -/
inductive OpR (b : ByteArray) : List ByteArray → Nat → Prop
  | ok (ps : List ByteArray) : Small ps → b = joinP ps → OpR b ps 0
  | bad (ps : List ByteArray) (r : ByteArray) (e : Nat) : Small ps → BadAt r e → b = joinP ps ++ r → OpR b [] e
theorem opens : ∀ (n : Nat) (b : ByteArray), b.size ≤ n → ∃ ps e, OpR b ps e := by
  intro n
  induction n with
  | zero =>
    intro b hb
    refine ⟨[], 0, .ok [] (fun p hp => by cases hp) (bytes_inj ?_)⟩
    have : b.data.toList.length = 0 := by rw [size_list]; omega
    rw [List.length_eq_zero_iff.1 this]; rfl
  | succ n ih =>
    intro b hb
    by_cases h0 : b.size = 0
    · exact ih b (by omega)
    · obtain ⟨⟨T, R, E⟩, hO⟩ : ∃ x, openT b = x := ⟨_, rfl⟩
      by_cases hE : E = 0
      · subst hE
        obtain ⟨h1, h2⟩ := open_sound hO
        have h5 := sealB_pos T
        have h3 : R.size ≤ n := by rw [h1, app_size] at hb; omega
        obtain ⟨ps, e, h4⟩ := ih R h3
        cases h4 with
        | ok _ k1 k2 => exact ⟨T :: ps, 0, .ok _ (fun p hp => by rcases List.mem_cons.1 hp with rfl | hp; exact h2; exact k1 p hp) (by rw [h1, joinP_cons, k2])⟩
        | bad qs r _ k1 k2 k3 => exact ⟨[], e, .bad (T :: qs) r e (fun p hp => by rcases List.mem_cons.1 hp with rfl | hp; exact h2; exact k1 p hp) k2 (by rw [h1, joinP_cons, k3, app_assoc])⟩
      · exact ⟨[], E, .bad [] b E (fun p hp => by cases hp) ⟨h0, ⟨T, R, hO⟩, hE⟩ (bytes_inj (by rw [app_list]; rfl))⟩

/-! ### what is decoded -/
inductive DecI (b : ByteArray) : Sp → Int → Prop
  | ok (s : Sp) : RtS s → Small (partsS s) → b = encI s → DecI b s 0
  | form (ps : List ByteArray) : Small ps → b = joinP ps → (∀ s, RtS s → ps ≠ partsS s) → DecI b zeroS 2
  | bad (ps : List ByteArray) (r : ByteArray) (e : Nat) : Small ps → BadAt r e → b = joinP ps ++ r → DecI b zeroS e
theorem dec_any (b : ByteArray) : ∃ s E, DecI b s E := by
  obtain ⟨ps, e, h⟩ := opens b.size b (Nat.le_refl _)
  cases h with
  | ok _ h1 h2 =>
    by_cases hs : ∃ s, RtS s ∧ ps = partsS s
    · obtain ⟨s, k1, rfl⟩ := hs
      exact ⟨s, 0, .ok s k1 h1 h2⟩
    · exact ⟨zeroS, 2, .form ps h1 h2 fun s k1 k2 => hs ⟨s, k1, k2⟩⟩
  | bad qs r _ h1 h2 h3 => exact ⟨zeroS, e, .bad qs r e h1 h2 h3⟩
theorem dec_one {b : ByteArray} {s t : Sp} {E F : Int} (h : DecI b s E) (k : DecI b t F) : s = t ∧ E = F := by
  cases h with
  | ok _ h1 h2 h3 =>
    cases k with
    | ok _ k1 k2 k3 => exact ⟨partsS_inj (joinP_inj h2 k2 (by unfold encI at h3 k3; rw [← h3, ← k3])), rfl⟩
    | form ps k1 k2 k3 => exact (k3 s h1 (joinP_inj k1 h2 (by unfold encI at h3; rw [← h3, ← k2]))).elim
    | bad ps r e k1 k2 k3 => exact (ok_bad h2 k1 k2 (by unfold encI at h3; rw [← h3, ← k3])).elim
  | form ps h1 h2 h3 =>
    cases k with
    | ok _ k1 k2 k3 => exact (h3 t k1 (joinP_inj h1 k2 (by unfold encI at k3; rw [← k3, ← h2]))).elim
    | form qs k1 k2 k3 => exact ⟨rfl, rfl⟩
    | bad qs r e k1 k2 k3 => exact (ok_bad h1 k1 k2 (by rw [← h2, ← k3])).elim
  | bad ps r e h1 h2 h3 =>
    cases k with
    | ok _ k1 k2 k3 => exact (ok_bad k2 h1 h2 (by unfold encI at k3; rw [← k3, ← h3])).elim
    | form qs k1 k2 k3 => exact (ok_bad k1 h1 h2 (by rw [← k2, ← h3])).elim
    | bad qs r' e' k1 k2 k3 => exact ⟨rfl, by rw [bad_inj h1 k1 h2 k2 (by rw [← h3, ← k3])]⟩

end Go.Proofs.YtigomhilcnnjdaaGreat.Img

/- What an edit makes of a right space is right. No program in it. -/
namespace Go.Proofs.YtigomhilcnnjdaaGreat.Spa
open Go.RowKit Go.Proofs.YtigomhilcnnjdaaGreat
open Go.Proofs.YtigomhilcnnjdaaGreat.Lea (LS Ls findX putL renX)
open Go.Proofs.YtigomhilcnnjdaaGreat.Edi (Ed)

/-! ### what is over -/
theorem over_iff {xs : NS} : overL xs = [] ↔ ∀ x ∈ xs, 0 ≤ x.quota → (cntL xs x.path : Int) ≤ x.quota := by
  unfold overL
  rw [List.map_eq_nil_iff, List.filter_eq_nil_iff]
  refine ⟨fun h x hx h0 => ?_, fun h x hx e => ?_⟩
  · have := h x hx
    unfold overB at this
    simp [h0] at this
    omega
  · unfold overB at e
    simp only [Bool.and_eq_true, decide_eq_true_eq] at e
    have := h x hx e.1
    omega
theorem cnt_perm {xs ys : NS} (h : xs.Perm ys) (p : ByteArray) : cntL xs p = cntL ys p := (h.filter _).length_eq
theorem roomF_all (xs : NS) (p : ByteArray) (k : Int) : ∀ (l : NS) (r : Int), k ≤ roomF xs p r l → ∀ y ∈ l, 0 ≤ y.quota → underB y.path p = true → (cntL xs y.path : Int) + k ≤ y.quota
  | [], _, _, y, hy, _, _ => by cases hy
  | x :: l, r, h, y, hy, h0, hu => by
    rcases List.mem_cons.1 hy with rfl | hy
    · have h1 := Int.le_trans h (roomF_le xs p l _)
      unfold roomS at h1
      rw [if_pos ⟨h0, hu⟩] at h1
      omega
    · exact roomF_all xs p k l _ h y hy h0 hu
theorem room_some {xs : NS} {p : ByteArray} (h : 1 ≤ roomI xs p) : ∀ y ∈ xs, 0 ≤ y.quota → underB y.path p = true → (cntL xs y.path : Int) + 1 ≤ y.quota := by
  unfold roomI at h
  split at h
  · have h1 : 1 ≤ roomF xs p (60 - (xs.length : Int)) xs := by
      generalize roomF xs p (60 - (xs.length : Int)) xs = R at *
      omega
    intro y hy h0 hu
    have := roomF_all xs p 1 xs _ h1 y hy h0 hu
    omega
  · omega

theorem made_over {xs : NS} {x : Nd} (hA : AddE xs x 0) (hq : x.quota = -1) (ho : overL xs = []) (hr : 1 ≤ roomI xs (parD x.path)) : overL (sortN (xs ++ [x])) = [] := by
  rw [over_iff] at ho ⊢
  have hR := added hA
  cases hA with
  | par e h1 h2 h3 h4 h5 h6 => exact absurd rfl h6
  | ok h1 h2 h3 h4 h5 h6 =>
    intro y hy h0
    rw [cnt_perm (sortN_perm _), cnt_app, cnt_one]
    rcases List.mem_append.1 (sortN_mem.1 hy) with hy | hy
    · by_cases hu : underB y.path x.path = true
      · rw [if_pos hu]
        have hne : y.path ≠ x.path := at_none h4 y hy
        have := room_some hr y hy h0 (under_par hu hne h3)
        omega
      · rw [if_neg hu]
        have := ho y hy h0
        omega
    · rw [List.mem_singleton.1 hy, hq] at h0
      omega
theorem left_over {xs : NS} {p : ByteArray} (ho : overL xs = []) : overL (leftL xs p) = [] := by
  rw [over_iff] at ho ⊢
  intro y hy h0
  have hy' : y ∈ xs := (List.mem_filter.1 hy).1
  have h1 := ho y hy' h0
  have h2 : cntL (leftL xs p) y.path ≤ cntL xs y.path := by
    exact ((List.filter_sublist (l := xs)).filter _).length_le
  omega

/-! ### blocks -/
def idsL (xs : NS) : List Int := (blksL xs).map (·.id)
theorem ids_iff {xs : NS} : (blksL xs).Pairwise (fun a b => a.id ≠ b.id) ↔ (idsL xs).Nodup := by
  unfold idsL; rw [List.nodup_iff_pairwise_ne, List.pairwise_map]
theorem mem_blks {xs : NS} {b : Blk} : b ∈ blksL xs ↔ ∃ x ∈ xs, b ∈ x.bs := List.mem_flatMap
theorem blks_perm {xs ys : NS} (h : xs.Perm ys) : (blksL xs).Perm (blksL ys) := List.Perm.flatMap_right _ h
theorem blks_app (xs ys : NS) : blksL (xs ++ ys) = blksL xs ++ blksL ys := List.flatMap_append
theorem blks_one (x : Nd) : blksL [x] = x.bs := by simp [blksL]
theorem pair_perm {l m : List Blk} (h : l.Perm m) (hl : l.Pairwise (fun a b => a.id ≠ b.id)) : m.Pairwise (fun a b => a.id ≠ b.id) :=
  (h.pairwise_iff (fun {_ _} e => e.symm)).1 hl

theorem sub_blks {xs ys : NS} (h : xs.Sublist ys) : (blksL xs).Sublist (blksL ys) := by
  induction h with
  | slnil => exact List.Sublist.refl _
  | cons a h ih =>
    show (blksL _).Sublist (a.bs ++ blksL _)
    exact ih.trans (List.sublist_append_right _ _)
  | cons_cons a h ih =>
    show (a.bs ++ blksL _).Sublist (a.bs ++ blksL _)
    exact (List.Sublist.refl _).append ih

theorem map_blks {xs : NS} {f : Nd → Nd} (h : ∀ x, (f x).bs = x.bs) : blksL (xs.map f) = blksL xs := by
  induction xs with
  | nil => rfl
  | cons x xs ih =>
    show (f x).bs ++ blksL (xs.map f) = x.bs ++ blksL xs
    rw [h, ih]

/-- What is moved has no blocks that were not there, each once. -/
theorem mov_sub {xs : NS} {f t : ByteArray} : ∃ zs : NS, zs.Sublist (xs.filter (fun x => !goesB f x)) ∧ (blksL (movL xs f t)).Perm (blksL zs ++ blksL (xs.filter (goesB f))) ∧ zs = xs.filter (stayB f t) := by
  refine ⟨xs.filter (stayB f t), ?_, ?_, rfl⟩
  · have : xs.filter (stayB f t) = (xs.filter (fun x => !goesB f x)).filter (stayB f t) := by
      rw [List.filter_filter]
      refine List.filter_congr fun x _ => ?_
      unfold stayB goesB
      cases decide (x.path = t) <;> cases underB f x.path <;> rfl
    rw [this]
    exact List.filter_sublist
  · refine (blks_perm (sortN_perm _)).trans ?_
    rw [blks_app, map_blks (f := movN f t) (fun x => rfl)]
theorem mov_blks_perm {xs : NS} {f : ByteArray} : (blksL (xs.filter (fun x => !goesB f x)) ++ blksL (xs.filter (goesB f))).Perm (blksL xs) := by
  rw [← blks_app]
  exact blks_perm (List.perm_append_comm.trans (List.filter_append_perm (goesB f) xs))
theorem mov_ids {xs : NS} {f t : ByteArray} (h : (blksL xs).Pairwise (fun a b => a.id ≠ b.id)) : (blksL (movL xs f t)).Pairwise (fun a b => a.id ≠ b.id) := by
  obtain ⟨zs, h1, h2, _⟩ := mov_sub (xs := xs) (f := f) (t := t)
  refine pair_perm h2.symm ?_
  have h3 := pair_perm (mov_blks_perm (xs := xs) (f := f)).symm h
  exact h3.sublist ((sub_blks h1).append (List.Sublist.refl _))
theorem mov_blks {xs : NS} {f t : ByteArray} {b : Blk} (h : b ∈ blksL (movL xs f t)) : b ∈ blksL xs := by
  obtain ⟨zs, h1, h2, _⟩ := mov_sub (xs := xs) (f := f) (t := t)
  exact mov_blks_perm.subset (((sub_blks h1).append (List.Sublist.refl _)).subset (h2.subset h))
theorem mov_wr {xs : NS} {f t : ByteArray} {x : Nd} (h : x ∈ movL xs f t) : ∃ y ∈ xs, y.wr = x.wr := by
  unfold movL at h
  rcases List.mem_append.1 (sortN_mem.1 h) with h | h
  · exact ⟨x, (List.mem_filter.1 h).1, rfl⟩
  · obtain ⟨z, hz, rfl⟩ := List.mem_map.1 h
    exact ⟨z, (List.mem_filter.1 hz).1, rfl⟩

/-! ### another node in its place -/
section
variable {xs : NS} {i : Nat} {x y : Nd}
theorem set_split (hx : xs[i]? = some x) : xs = xs.take i ++ x :: xs.drop (i + 1) ∧ xs.set i y = xs.take i ++ y :: xs.drop (i + 1) := by
  obtain ⟨hi, rfl⟩ := List.getElem?_eq_some_iff.1 hx
  exact ⟨by rw [← List.drop_eq_getElem_cons hi, List.take_append_drop], by rw [List.set_eq_take_append_cons_drop, if_pos hi]⟩
theorem set_mem {z : Nd} (hz : z ∈ xs.set i y) : z = y ∨ z ∈ xs := (List.mem_or_eq_of_mem_set hz).symm
theorem set_paths (hx : xs[i]? = some x) (hp : y.path = x.path) : (xs.set i y).map (·.path) = xs.map (·.path) := by
  obtain ⟨h1, h2⟩ := set_split (y := y) hx
  rw [h2]
  conv => rhs; rw [h1]
  simp only [List.map_append, List.map_cons, hp]
theorem set_to (hx : xs[i]? = some x) (hp : y.path = x.path) (hd : y.dir = x.dir) {z : Nd} (hz : z ∈ xs) : ∃ u ∈ xs.set i y, u.path = z.path ∧ u.dir = z.dir := by
  obtain ⟨h1, h2⟩ := set_split (y := y) hx
  rw [h2]
  rw [h1] at hz
  rcases List.mem_append.1 hz with h | h
  · exact ⟨z, List.mem_append.2 (.inl h), rfl, rfl⟩
  · rcases List.mem_cons.1 h with h | h
    · exact ⟨y, by simp, by rw [h]; exact hp, by rw [h]; exact hd⟩
    · exact ⟨z, List.mem_append.2 (.inr (List.mem_cons_of_mem _ h)), rfl, rfl⟩
theorem paths_asc {xs ys : NS} (h : ys.map (·.path) = xs.map (·.path)) (ha : Asc xs) : Asc ys := by
  unfold Asc at *
  have e : ∀ l : NS, l.Pairwise (fun x y => ltB x.path y.path = true) ↔ (l.map (·.path)).Pairwise (fun a b => ltB a b = true) := fun l => by rw [List.pairwise_map]
  rw [e, h, ← e]; exact ha
theorem set_right (h : Right xs) (hx : xs[i]? = some x) (hp : y.path = x.path) (hd : y.dir = x.dir) (hf : fitsB y = true) : Right (xs.set i y) := by
  refine right_of (paths_asc (set_paths hx hp) (right_asc h)) (by rw [List.length_set]; exact h.few) ?_ (fun z hz => ?_) (fun z hz hr => ?_)
  · obtain ⟨r, hr, hrp, _⟩ := right_root h
    obtain ⟨z, hz, hzp, _⟩ := set_to hx hp hd hr
    exact ⟨z, hz, hzp.trans hrp⟩
  · rcases set_mem hz with rfl | hz
    · exact hf
    · exact h.fit z hz
  · have : ∃ u ∈ xs, u.path = parD z.path ∧ u.dir = true := by
      rcases set_mem hz with rfl | hz
      · rw [hp] at hr ⊢
        exact right_par h (List.mem_of_getElem? hx) hr
      · exact right_par h hz hr
    obtain ⟨u, hu, hup, hud⟩ := this
    obtain ⟨v, hv, e1, e2⟩ := set_to hx hp hd hu
    exact ⟨v, hv, e1.trans hup, e2.trans hud⟩
theorem set_over (ho : overL xs = []) (hx : xs[i]? = some x) (hp : y.path = x.path) (hq : 0 ≤ y.quota → (cntL xs x.path : Int) ≤ y.quota) : overL (xs.set i y) = [] := by
  rw [over_iff] at ho ⊢
  intro z hz h0
  rw [cnt_paths (set_paths hx hp)]
  rcases set_mem hz with rfl | hz
  · rw [hp]; exact hq h0
  · exact ho z hz h0
theorem set_blks (hx : xs[i]? = some x) : blksL xs = blksL (xs.take i) ++ (x.bs ++ blksL (xs.drop (i + 1))) ∧ blksL (xs.set i y) = blksL (xs.take i) ++ (y.bs ++ blksL (xs.drop (i + 1))) := by
  obtain ⟨h1, h2⟩ := set_split (y := y) hx
  constructor
  · conv => lhs; rw [h1]
    rw [blks_app]; rfl
  · rw [h2, blks_app]; rfl
theorem set_ids (hx : xs[i]? = some x) (he : y.bs.map (·.id) = x.bs.map (·.id)) : idsL (xs.set i y) = idsL xs := by
  obtain ⟨h1, h2⟩ := set_blks (y := y) hx
  unfold idsL
  rw [h1, h2]
  simp only [List.map_append, he]
theorem set_more {b : Blk} (hx : xs[i]? = some x) (he : y.bs.map (·.id) = x.bs.map (·.id) ++ [b.id]) : (idsL (xs.set i y)).Perm (b.id :: idsL xs) := by
  obtain ⟨h1, h2⟩ := set_blks (y := y) hx
  unfold idsL
  rw [h1, h2]
  simp only [List.map_append, he]
  generalize (blksL (xs.take i)).map (·.id) = A
  generalize x.bs.map (·.id) = B
  generalize (blksL (xs.drop (i + 1))).map (·.id) = C
  have e : A ++ (B ++ [b.id] ++ C) = (A ++ B) ++ b.id :: C := by simp
  rw [e, ← List.append_assoc]
  exact List.perm_middle
end

/-! ### blocks of one node -/
theorem lens_ids : ∀ (bs : List Blk) (ls : List Int), ls.length = bs.length → (setLens bs ls).map (·.id) = bs.map (·.id)
  | [], [], _ => rfl
  | b :: bs, l :: ls, h => by simp [setLens]; exact lens_ids bs ls (by simpa using h)
  | [], l :: ls, h => by simp at h
  | b :: bs, [], h => by simp at h
theorem lens_mem : ∀ (bs : List Blk) (ls : List Int) (b : Blk), b ∈ setLens bs ls → ∃ c ∈ bs, c.id = b.id ∧ c.gen = b.gen ∧ b.len ∈ ls
  | b :: bs, l :: ls, c, h => by
    rcases List.mem_cons.1 h with rfl | h
    · exact ⟨b, by simp, rfl, rfl, by simp⟩
    · obtain ⟨d, h1, h2, h3, h4⟩ := lens_mem bs ls c h
      exact ⟨d, List.mem_cons_of_mem _ h1, h2, h3, List.mem_cons_of_mem _ h4⟩
  | [], [], _, h => by cases h
  | [], _ :: _, _, h => by cases h
  | _ :: _, [], _, h => by cases h
theorem gen_ids : ∀ (bs : List Blk) (n : Nat) (g : Int), (setGen bs n g).map (·.id) = bs.map (·.id)
  | [], _, _ => rfl
  | b :: bs, 0, g => rfl
  | b :: bs, n + 1, g => by simp [setGen, gen_ids bs n g]
theorem gen_mem : ∀ (bs : List Blk) (n : Nat) (g : Int) (b : Blk), b ∈ setGen bs n g → ∃ c ∈ bs, c.id = b.id ∧ c.len = b.len ∧ (b.gen = c.gen ∨ b.gen = g)
  | b :: bs, 0, g, c, h => by
    rcases List.mem_cons.1 h with rfl | h
    · exact ⟨b, by simp, rfl, rfl, .inr rfl⟩
    · exact ⟨c, List.mem_cons_of_mem _ h, rfl, rfl, .inl rfl⟩
  | b :: bs, n + 1, g, c, h => by
    rcases List.mem_cons.1 h with rfl | h
    · exact ⟨c, by simp, rfl, rfl, .inl rfl⟩
    · obtain ⟨d, h1, h2⟩ := gen_mem bs n g c h
      exact ⟨d, List.mem_cons_of_mem _ h1, h2⟩
  | [], _, _, _, h => by cases h

/-! ### leases -/
structure Rnw (xs ys : LS) (c now : Int) : Prop where
  eq : renX xs c now = (ys, true)
  right : Lea.Rt ys
  here : (findX ys c).2 = true
  lasts : now + 10 ≤ (findX ys c).1
  keep : ∀ z, (findX xs z).2 = true → (findX ys z).2 = true
theorem rnw_of {xs : LS} {c now : Int} (h : Lea.Rt xs) (hc : 0 ≤ c ∧ c < 4) (h1 : 0 ≤ now) (h2 : now ≤ 9007199254740981) : Rnw xs (renX xs c now).1 c now := by
  have e : renX xs c now = (putL xs ⟨c, max (findX xs c).1 (now + 10)⟩, true) := if_pos ⟨h, hc, h1, h2⟩
  have hR := Lea.ren_of h hc h1 h2
  rw [e]
  refine ⟨by rw [e], hR.right, by rw [hR.find], by rw [hR.find]; exact hR.ge, fun z hz => ?_⟩
  rcases Lea.find_cases xs z with ⟨y, hy, rfl, _⟩ | ⟨_, h0⟩
  · obtain ⟨u, _, hu⟩ := hR.keep y hy
    rw [hu]
  · rw [h0] at hz; cases hz

/-! ### nodes that fit -/
theorem file_of {x : Nd} (h : fitsB x = true) (hd : x.dir = false) : pathB x.path = true ∧ x.path ≠ rootP ∧ x.quota = -1 ∧ (-1 ≤ x.wr ∧ x.wr ≤ 3) ∧ x.bs.length ≤ 8 ∧ ∀ b ∈ x.bs, blkB b = true := by
  unfold fitsB at h
  rw [hd] at h
  simp only [Bool.and_eq_true, Bool.false_eq_true, if_false] at h
  unfold fileB headB at h
  simp only [Bool.and_eq_true, decide_eq_true_eq, Bool.not_eq_true', decide_eq_false_iff_not, List.all_eq_true] at h
  exact ⟨h.1, h.2.1.1.1.1, h.2.1.1.1.2, h.2.1.1.2, h.2.1.2, h.2.2⟩
theorem file_fits {x : Nd} (hd : x.dir = false) (h1 : pathB x.path = true) (h2 : x.path ≠ rootP) (h3 : x.quota = -1) (h4 : -1 ≤ x.wr ∧ x.wr ≤ 3) (h5 : x.bs.length ≤ 8) (h6 : ∀ b ∈ x.bs, blkB b = true) : fitsB x = true := by
  unfold fitsB
  rw [hd]
  simp only [Bool.and_eq_true, Bool.false_eq_true, if_false]
  unfold fileB headB
  simp only [Bool.and_eq_true, decide_eq_true_eq, Bool.not_eq_true', decide_eq_false_iff_not, List.all_eq_true]
  exact ⟨h1, ⟨⟨⟨h2, h3⟩, h4⟩, h5⟩, h6⟩
theorem dir_of {x : Nd} (h : fitsB x = true) (hd : x.dir = true) : pathB x.path = true ∧ x.bs = [] ∧ x.wr = -1 ∧ -1 ≤ x.quota ∧ x.quota ≤ 9007199254740991 := by
  unfold fitsB at h
  rw [hd] at h
  simp only [Bool.and_eq_true, if_true] at h
  unfold dirB at h
  simp only [Bool.and_eq_true, decide_eq_true_eq] at h
  exact ⟨h.1, List.length_eq_zero_iff.1 h.2.1.1, h.2.1.2, h.2.2.1, h.2.2.2⟩
theorem dir_fits {x : Nd} (hd : x.dir = true) (h1 : pathB x.path = true) (h2 : x.bs = []) (h3 : x.wr = -1) (h4 : -1 ≤ x.quota) (h5 : x.quota ≤ 9007199254740991) : fitsB x = true := by
  unfold fitsB
  rw [hd]
  simp only [Bool.and_eq_true, if_true]
  unfold dirB
  simp only [Bool.and_eq_true, decide_eq_true_eq]
  exact ⟨h1, ⟨by rw [h2]; rfl, h3⟩, h4, h5⟩
theorem blk_iff {b : Blk} : blkB b = true ↔ (1 ≤ b.id ∧ b.id ≤ 9007199254740991) ∧ (1 ≤ b.gen ∧ b.gen ≤ 9007199254740991) ∧ 0 ≤ b.len ∧ b.len ≤ 64 := by
  unfold blkB numB
  simp only [Bool.and_eq_true, decide_eq_true_eq]
  exact ⟨fun h => ⟨h.1.1, h.1.2, h.2⟩, fun h => ⟨⟨h.1, h.2.1⟩, h.2.2⟩⟩

end Go.Proofs.YtigomhilcnnjdaaGreat.Spa

/- What an edit makes of a right space is right: all kinds. No program in it. -/
namespace Go.Proofs.YtigomhilcnnjdaaGreat.Spa
open Go.RowKit Go.Proofs.YtigomhilcnnjdaaGreat
open Go.Proofs.YtigomhilcnnjdaaGreat.Lea (LS Ls findX putL renX)
open Go.Proofs.YtigomhilcnnjdaaGreat.Edi (Ed)

theorem upd_keeps {s : Sp} (h : RtS s) (ht : s.tx ≠ 300) {i : Nat} {x y : Nd} (hx : s.ns[i]? = some x) (hp : y.path = x.path) (hd : y.dir = x.dir) (hf : fitsB y = true) (hq : 0 ≤ y.quota → (cntL s.ns x.path : Int) ≤ y.quota) {nb ng now : Int} {ls : LS}
    (hids : (idsL (s.ns.set i y)).Nodup) (hlo : ∀ b ∈ y.bs, b.id < nb ∧ b.gen < ng) (hnb : s.nb ≤ nb ∧ nb ≤ 9007199254740991) (hng : s.ng ≤ ng ∧ ng ≤ 9007199254740991) (hnow : 0 ≤ now ∧ now ≤ 9007199254740981) (hls : Lea.Rt ls)
    (hkeep : ∀ z, (findX s.ls z).2 = true → (findX ls z).2 = true) (hw : y.wr ≠ -1 → (findX ls y.wr).2 = true) : RtS ⟨s.tx + 1, nb, ng, now, s.ns.set i y, ls⟩ := by
  have h1 := h.tx
  have h2 := h.nb
  have h3 := h.ng
  refine ⟨by show 0 ≤ s.tx + 1 ∧ s.tx + 1 ≤ 300; omega, by show 1 ≤ nb ∧ nb ≤ 9007199254740991; omega, by show 1 ≤ ng ∧ ng ≤ 9007199254740991; omega, hnow, set_right h.tree hx hp hd hf, set_over h.over hx hp hq, ids_iff.2 hids, fun b hb => ?_, hls, fun z hz hz1 => ?_⟩
  · obtain ⟨z, hz, hbz⟩ := mem_blks.1 hb
    rcases set_mem hz with rfl | hz
    · exact hlo b hbz
    · have := h.lo b (mem_blks.2 ⟨z, hz, hbz⟩)
      show b.id < nb ∧ b.gen < ng
      omega
  · rcases set_mem hz with rfl | hz
    · exact hw hz1
    · exact hkeep _ (h.wr z hz hz1)

theorem ids_same {s : Sp} (h : RtS s) {i : Nat} {x y : Nd} (hx : s.ns[i]? = some x) (he : y.bs.map (·.id) = x.bs.map (·.id)) : (idsL (s.ns.set i y)).Nodup := by
  rw [set_ids hx he]; exact ids_iff.1 h.ids

theorem Is.blks {s : Sp} (h : RtS s) {p : ByteArray} {i : Nat} {x : Nd} (hi : Is s.ns p i x) : ∀ b ∈ x.bs, b.id < s.nb ∧ b.gen < s.ng := fun b hb => h.lo b (mem_blks.2 ⟨x, hi.mem, hb⟩)

theorem client_of {e : Ed} (h : Edi.Rt e) : 0 ≤ e.c ∧ e.c < 4 := by have := Edi.inB_iff.1 h.client; omega
theorem lens_of {e : Ed} (h : Edi.Rt e) : ∀ l ∈ e.ls, 0 ≤ l := fun l hl => (Edi.inB_iff.1 (List.all_eq_true.1 h.each l hl)).1

theorem lens_fit {x : Nd} {ls : List Int} (hf : ∀ b ∈ x.bs, blkB b = true) (hl : LenOk x.bs ls) (h0 : ∀ l ∈ ls, 0 ≤ l) : ∀ b ∈ setLens x.bs ls, blkB b = true := fun b hb => by
  obtain ⟨c, hc, e1, e2, e3⟩ := lens_mem _ _ _ hb
  have := blk_iff.1 (hf c hc)
  have := h0 _ e3
  have := hl.each _ e3
  rw [blk_iff]
  omega

theorem keep_addb {s : Sp} {e : Ed} (h : RtS s) (he : Edi.Rt e) (ht : s.tx ≠ 300) (k : e.k = 5) (hd : AddBE s e 0) : RtS (doS s e) := by
  cases hd with
  | writ _ _ h0 => exact absurd rfl h0
  | ok i x hw hl h8 hn hg =>
    obtain ⟨f1, f2, f3, f4, f5, f6⟩ := file_of (h.tree.fit x hw.is.mem) hw.dir
    have hb := h.nb
    have hgb := h.ng
    have e1 : doS s e = ⟨s.tx + 1, s.nb + 1, s.ng + 1, s.now, s.ns.set i (withBs x (setLens x.bs e.ls ++ [⟨s.nb, s.ng, 0⟩])), s.ls⟩ := by
      have : nsOf s e = s.ns.set i (withBs x (setLens x.bs e.ls ++ [⟨s.nb, s.ng, 0⟩])) := by
        unfold nsOf
        rw [if_neg (by omega), if_neg (by omega), if_neg (by omega), hw.is.upd]
        unfold onN; rw [if_pos k]
      unfold doS nowOf lsOf
      rw [this, if_pos k, if_pos (.inl k), if_neg (by omega), if_neg (by omega)]
    rw [e1]
    have hL := setLens_len _ _ hl.len
    refine upd_keeps (y := withBs x (setLens x.bs e.ls ++ [⟨s.nb, s.ng, 0⟩])) (nb := s.nb + 1) (ng := s.ng + 1) h ht hw.is.nd rfl rfl (file_fits hw.dir f1 f2 f3 f4 ?_ (fun b hb => ?_)) (fun h0 => by have : x.quota = -1 := f3; have h0' : 0 ≤ x.quota := h0; omega) ?_ (fun b hb => ?_) (by omega) (by omega) h.now h.ls (fun _ hz => hz) (fun hw1 => h.wr x hw.is.mem hw1)
    · show (setLens x.bs e.ls ++ [_]).length ≤ 8
      rw [List.length_append, hL, List.length_singleton]; omega
    · have hb : b ∈ setLens x.bs e.ls ++ [⟨s.nb, s.ng, 0⟩] := hb
      rcases List.mem_append.1 hb with hb | hb
      · exact lens_fit f6 hl (lens_of he) b hb
      · rw [List.mem_singleton.1 hb, blk_iff]
        show (1 ≤ s.nb ∧ s.nb ≤ _) ∧ (1 ≤ s.ng ∧ s.ng ≤ _) ∧ (0 : Int) ≤ 0 ∧ (0 : Int) ≤ 64
        omega
    · refine (set_more (b := ⟨s.nb, s.ng, 0⟩) hw.is.nd ?_).nodup_iff.2 (List.nodup_cons.2 ⟨fun hm => ?_, ids_iff.1 h.ids⟩)
      · show (setLens x.bs e.ls ++ [(⟨s.nb, s.ng, 0⟩ : Blk)]).map (fun b => b.id) = _
        rw [List.map_append, lens_ids _ _ hl.len]; rfl
      · obtain ⟨b, hb, hbe⟩ := List.mem_map.1 hm
        have := h.lo b hb
        have hbe : b.id = s.nb := hbe
        omega
    · have hb : b ∈ setLens x.bs e.ls ++ [⟨s.nb, s.ng, 0⟩] := hb
      rcases List.mem_append.1 hb with hb | hb
      · obtain ⟨c, hc, e1, e2, e3⟩ := lens_mem _ _ _ hb
        have := hw.is.blks h c hc
        omega
      · rw [List.mem_singleton.1 hb]
        show s.nb < s.nb + 1 ∧ s.ng < s.ng + 1
        omega

theorem keep_comp {s : Sp} {e : Ed} (h : RtS s) (he : Edi.Rt e) (ht : s.tx ≠ 300) (k : e.k = 6) (hd : CompE s e 0) : RtS (doS s e) := by
  cases hd with
  | writ _ _ h0 => exact absurd rfl h0
  | ok i x hw hl =>
    obtain ⟨f1, f2, f3, f4, f5, f6⟩ := file_of (h.tree.fit x hw.is.mem) hw.dir
    have e1 : doS s e = ⟨s.tx + 1, s.nb, s.ng, s.now, s.ns.set i (withWr (withBs x (setLens x.bs e.ls)) (-1)), s.ls⟩ := by
      have : nsOf s e = s.ns.set i (withWr (withBs x (setLens x.bs e.ls)) (-1)) := by
        unfold nsOf
        rw [if_neg (by omega), if_neg (by omega), if_neg (by omega), hw.is.upd]
        unfold onN; rw [if_neg (by omega), if_pos k]
      unfold doS nowOf lsOf
      rw [this, if_neg (by omega), if_neg (by omega), if_neg (by omega), if_neg (by omega)]
    rw [e1]
    refine upd_keeps (y := withWr (withBs x (setLens x.bs e.ls)) (-1)) (nb := s.nb) (ng := s.ng) h ht hw.is.nd rfl rfl (file_fits hw.dir f1 f2 f3 (by show -1 ≤ (-1 : Int) ∧ (-1 : Int) ≤ 3; omega) ?_ (fun b hb => lens_fit f6 hl (lens_of he) b hb)) (fun h0 => by have : x.quota = -1 := f3; have h0' : 0 ≤ x.quota := h0; omega) (ids_same h hw.is.nd (lens_ids _ _ hl.len)) (fun b hb => ?_) ⟨Int.le_refl _, h.nb.2⟩ ⟨Int.le_refl _, h.ng.2⟩ h.now h.ls (fun _ hz => hz) (fun hw1 => absurd rfl hw1)
    · show (setLens x.bs e.ls).length ≤ 8
      rw [setLens_len _ _ hl.len]; exact f5
    · obtain ⟨c, hc, e1, e2, e3⟩ := lens_mem _ _ _ hb
      have := hw.is.blks h c hc
      omega

theorem keep_setq {s : Sp} {e : Ed} (h : RtS s) (he : Edi.Rt e) (ht : s.tx ≠ 300) (k : e.k = 7) (hd : SetQE s e 0) : RtS (doS s e) := by
  cases hd with
  | node _ _ h0 => exact absurd rfl h0
  | ok i x hi hxd hn =>
    obtain ⟨f1, f2, f3, f4, f5⟩ := dir_of (h.tree.fit x hi.mem) hxd
    have hnum := Edi.inB_iff.1 he.num
    have hlo : Edi.loN e.k = -1 := if_pos k
    have hhi : Edi.hiN e.k = 9007199254740991 := if_pos (.inl k)
    rw [hlo, hhi] at hnum
    have e1 : doS s e = ⟨s.tx + 1, s.nb, s.ng, s.now, s.ns.set i (withQu x e.n), s.ls⟩ := by
      have : nsOf s e = s.ns.set i (withQu x e.n) := by
        unfold nsOf
        rw [if_neg (by omega), if_neg (by omega), if_neg (by omega), hi.upd]
        unfold onN; rw [if_neg (by omega), if_neg (by omega), if_pos k]
      unfold doS nowOf lsOf
      rw [this, if_neg (by omega), if_neg (by omega), if_neg (by omega), if_neg (by omega)]
    rw [e1]
    refine upd_keeps (y := withQu x e.n) (nb := s.nb) (ng := s.ng) h ht hi.nd rfl rfl (dir_fits hxd f1 f2 f3 hnum.1 hnum.2) (fun h0 => ?_) (ids_same h hi.nd rfl) (fun b hb => ?_) ⟨Int.le_refl _, h.nb.2⟩ ⟨Int.le_refl _, h.ng.2⟩ h.now h.ls (fun _ hz => hz) (fun hw1 => absurd f3 hw1)
    · have h0 : 0 ≤ e.n := h0
      rw [hi.eq]; exact hn (by omega)
    · have hb : b ∈ x.bs := hb
      rw [f2] at hb; cases hb

theorem keep_bump {s : Sp} {e : Ed} (h : RtS s) (ht : s.tx ≠ 300) (k : e.k = 9) (hd : BumpE s e 0) : RtS (doS s e) := by
  cases hd with
  | writ _ _ h0 => exact absurd rfl h0
  | ok i x hw hl hg =>
    obtain ⟨f1, f2, f3, f4, f5, f6⟩ := file_of (h.tree.fit x hw.is.mem) hw.dir
    have hgb := h.ng
    have hnb := h.nb
    have e1 : doS s e = ⟨s.tx + 1, s.nb, s.ng + 1, s.now, s.ns.set i (withBs x (setGen x.bs e.n.toNat s.ng)), s.ls⟩ := by
      have : nsOf s e = s.ns.set i (withBs x (setGen x.bs e.n.toNat s.ng)) := by
        unfold nsOf
        rw [if_neg (by omega), if_neg (by omega), if_neg (by omega), hw.is.upd]
        unfold onN; rw [if_neg (by omega), if_neg (by omega), if_neg (by omega), if_pos k]
      unfold doS nowOf lsOf
      rw [this, if_neg (by omega), if_pos (.inr k), if_neg (by omega), if_neg (by omega)]
    rw [e1]
    refine upd_keeps (y := withBs x (setGen x.bs e.n.toNat s.ng)) (nb := s.nb) (ng := s.ng + 1) h ht hw.is.nd rfl rfl (file_fits hw.dir f1 f2 f3 f4 ?_ (fun b hb => ?_)) (fun h0 => by have : x.quota = -1 := f3; have h0' : 0 ≤ x.quota := h0; omega) (ids_same h hw.is.nd (gen_ids _ _ _)) (fun b hb => ?_) ⟨Int.le_refl _, h.nb.2⟩ (by omega) h.now h.ls (fun _ hz => hz) (fun hw1 => h.wr x hw.is.mem hw1)
    · show (setGen x.bs _ _).length ≤ 8
      rw [setGen_len]; exact f5
    · obtain ⟨c, hc, e1, e2, e3⟩ := gen_mem _ _ _ _ hb
      have := blk_iff.1 (f6 c hc)
      rw [blk_iff]
      omega
    · obtain ⟨c, hc, e1, e2, e3⟩ := gen_mem _ _ _ _ hb
      have := hw.is.blks h c hc
      omega

theorem keep_reop {s : Sp} {e : Ed} (h : RtS s) (he : Edi.Rt e) (ht : s.tx ≠ 300) (k : e.k = 10) (hd : ReopE s e 0) : RtS (doS s e) := by
  cases hd with
  | file _ _ h0 => exact absurd rfl h0
  | ok i x hi hxd hw =>
    obtain ⟨f1, f2, f3, f4, f5, f6⟩ := file_of (h.tree.fit x hi.mem) hxd
    have hc := client_of he
    have hR := rnw_of h.ls hc h.now.1 h.now.2
    have e1 : doS s e = ⟨s.tx + 1, s.nb, s.ng, s.now, s.ns.set i (withWr x e.c), (renX s.ls e.c s.now).1⟩ := by
      have : nsOf s e = s.ns.set i (withWr x e.c) := by
        unfold nsOf
        rw [if_neg (by omega), if_neg (by omega), if_neg (by omega), hi.upd]
        unfold onN; rw [if_neg (by omega), if_neg (by omega), if_neg (by omega), if_neg (by omega), if_pos k]
      unfold doS lsOf nowOf
      rw [this, if_neg (by omega), if_neg (by omega), if_neg (by omega), if_pos (.inr (.inr k))]
    rw [e1]
    exact upd_keeps (y := withWr x e.c) (nb := s.nb) (ng := s.ng) h ht hi.nd rfl rfl (file_fits hxd f1 f2 f3 (by show -1 ≤ e.c ∧ e.c ≤ 3; omega) f5 f6) (fun h0 => by have : x.quota = -1 := f3; have h0' : 0 ≤ x.quota := h0; omega) (ids_same h hi.nd rfl) (hi.blks h) ⟨Int.le_refl _, h.nb.2⟩ ⟨Int.le_refl _, h.ng.2⟩ h.now hR.right hR.keep (fun _ => hR.here)

theorem keep_rnw {s : Sp} {e : Ed} (h : RtS s) (he : Edi.Rt e) (ht : s.tx ≠ 300) (k : e.k = 8) (hd : RnwE s e 0) : RtS (doS s e) := by
  cases hd with
  | ok h1 h2 =>
    have hc := client_of he
    have hn := h.now
    have htx := h.tx
    have hR := rnw_of (now := e.n) h.ls hc (by omega) h2
    have e1 : doS s e = ⟨s.tx + 1, s.nb, s.ng, e.n, s.ns, (renX s.ls e.c e.n).1⟩ := by
      have : nsOf s e = s.ns := by
        unfold nsOf
        rw [if_neg (by omega), if_neg (by omega), if_neg (by omega)]
        refine updN_self _ _ _ fun x _ => ?_
        unfold onN; rw [if_neg (by omega), if_neg (by omega), if_neg (by omega), if_neg (by omega), if_neg (by omega)]
      unfold doS lsOf nowOf
      rw [this, if_neg (by omega), if_neg (by omega), if_pos k, if_pos (.inr (.inl k))]
    rw [e1]
    exact ⟨by show 0 ≤ s.tx + 1 ∧ s.tx + 1 ≤ 300; omega, h.nb, h.ng, by show 0 ≤ e.n ∧ e.n ≤ 9007199254740981; omega, h.tree, h.over, h.ids, h.lo, hR.right, fun x hx hw => hR.keep _ (h.wr x hx hw)⟩

theorem keep_rem {s : Sp} {e : Ed} (h : RtS s) (ht : s.tx ≠ 300) (k : e.k = 3) (hd : RemE s.ns e.p 0) : RtS (doS s e) := by
  have htx := h.tx
  have e1 : doS s e = ⟨s.tx + 1, s.nb, s.ng, s.now, leftL s.ns e.p, s.ls⟩ := by
    have : nsOf s e = leftL s.ns e.p := by
      unfold nsOf
      rw [if_neg (by omega), if_pos k]
    unfold doS lsOf nowOf
    rw [this, if_neg (by omega), if_neg (by omega), if_neg (by omega), if_neg (by omega)]
  rw [e1]
  have hS : (leftL s.ns e.p).Sublist s.ns := List.filter_sublist
  exact ⟨by show 0 ≤ s.tx + 1 ∧ s.tx + 1 ≤ 300; omega, h.nb, h.ng, h.now, (removed hd).1, left_over h.over, h.ids.sublist (sub_blks hS), fun b hb => h.lo b ((sub_blks hS).subset hb), h.ls, fun x hx hw => h.wr x (hS.subset hx) hw⟩

theorem keep_ren {s : Sp} {e : Ed} (h : RtS s) (ht : s.tx ≠ 300) (k : e.k = 4) (hd : RenE s e 0) : RtS (doS s e) := by
  cases hd with
  | mov _ _ h0 => exact absurd rfl h0
  | ok hm ho =>
    have htx := h.tx
    have e1 : doS s e = ⟨s.tx + 1, s.nb, s.ng, s.now, movL s.ns e.p e.t, s.ls⟩ := by
      have : nsOf s e = movL s.ns e.p e.t := by
        unfold nsOf
        rw [if_neg (by omega), if_neg (by omega), if_pos k]
      unfold doS lsOf nowOf
      rw [this, if_neg (by omega), if_neg (by omega), if_neg (by omega), if_neg (by omega)]
    rw [e1]
    exact ⟨by show 0 ≤ s.tx + 1 ∧ s.tx + 1 ≤ 300; omega, h.nb, h.ng, h.now, (mov_of hm).tree.1, ho, mov_ids h.ids, fun b hb => h.lo b (mov_blks hb), h.ls, fun x hx hw => by
      obtain ⟨y, hy, hyw⟩ := mov_wr hx
      rw [← hyw] at hw ⊢
      exact h.wr y hy hw⟩

theorem keep_made {s : Sp} {e : Ed} (h : RtS s) (he : Edi.Rt e) (ht : s.tx ≠ 300) (k : e.k = 1 ∨ e.k = 2) (hd : MadeE s e 0) : RtS (doS s e) := by
  cases hd with
  | add _ _ h0 => exact absurd rfl h0
  | ok hA hr =>
    have htx := h.tx
    have hc := client_of he
    have hns : nsOf s e = sortN (s.ns ++ [newN e]) := by unfold nsOf; rw [if_pos k]
    have hb : (blksL (sortN (s.ns ++ [newN e]))).Perm (blksL s.ns) := by
      refine (blks_perm (sortN_perm _)).trans ?_
      rw [blks_app, blks_one]
      show (blksL s.ns ++ []).Perm _
      rw [List.append_nil]
    have hR := rnw_of h.ls hc h.now.1 h.now.2
    have hls : Lea.Rt (lsOf s e) ∧ (∀ z, (findX s.ls z).2 = true → (findX (lsOf s e) z).2 = true) ∧ (e.k = 2 → (findX (lsOf s e) e.c).2 = true) := by
      unfold lsOf nowOf
      rcases k with k | k
      · rw [if_neg (by omega)]
        exact ⟨h.ls, fun _ hz => hz, fun e2 => by omega⟩
      · rw [if_pos (.inl k), if_neg (by omega)]
        exact ⟨hR.right, hR.keep, fun _ => hR.here⟩
    have e1 : doS s e = ⟨s.tx + 1, s.nb, s.ng, s.now, sortN (s.ns ++ [newN e]), lsOf s e⟩ := by
      unfold doS nowOf
      rw [hns, if_neg (by omega), if_neg (by omega), if_neg (by omega)]
    rw [e1]
    refine ⟨by show 0 ≤ s.tx + 1 ∧ s.tx + 1 ≤ 300; omega, h.nb, h.ng, h.now, (added hA).1, made_over hA rfl h.over hr, pair_perm hb.symm h.ids, fun b hm => h.lo b (hb.subset hm), hls.1, fun x hx hw => ?_⟩
    rcases List.mem_append.1 (sortN_mem.1 hx) with hx | hx
    · exact hls.2.1 _ (h.wr x hx hw)
    · rw [List.mem_singleton.1 hx] at hw ⊢
      unfold newN at hw ⊢
      simp only at hw ⊢
      by_cases k2 : e.k = 2
      · rw [if_pos k2]; exact hls.2.2 k2
      · rw [if_neg k2] at hw; exact absurd rfl hw

theorem keeps {s : Sp} {e : Ed} (h : RtS s) (he : Edi.Rt e) (ht : s.tx ≠ 300) (hd : DoE s e 0) : RtS (doS s e) := by
  cases hd with
  | made k hm => exact keep_made h he ht k hm
  | rem k hm => exact keep_rem h ht k hm
  | ren k hm => exact keep_ren h ht k hm
  | addb k hm => exact keep_addb h he ht k hm
  | comp k hm => exact keep_comp h he ht k hm
  | setq k hm => exact keep_setq h he ht k hm
  | rnw k hm => exact keep_rnw h he ht k hm
  | bump k hm => exact keep_bump h ht k hm
  | reop k hm => exact keep_reop h he ht k hm

theorem app_keeps {s : Sp} {e : Ed} (h : AppE s e 0) : RtS s ∧ RtS (doS s e) := by
  cases h with
  | does _ h he ht hd => exact ⟨h, keeps h he ht hd⟩

theorem new_right : RtS newS := by
  have hr : pathB rootP = true := by unfold pathB; rw [root_split.2]; rfl
  have hR : Right [rootN] := by
    refine right_of (List.pairwise_singleton _ _) (by decide) ⟨rootN, by simp, rfl⟩ (fun x hx => ?_) (fun x hx hp => ?_)
    · rw [List.mem_singleton.1 hx]
      exact dir_fits rfl hr rfl rfl (by decide) (by decide)
    · rw [List.mem_singleton.1 hx] at hp; exact absurd rfl hp
  refine ⟨by decide, by decide, by decide, by decide, hR, over_iff.2 fun x hx h0 => ?_, List.Pairwise.nil, fun b hb => (by cases hb), Lea.Rt.nil, fun x hx hw => ?_⟩
  · rw [List.mem_singleton.1 hx] at h0
    exact absurd h0 (by decide)
  · rw [List.mem_singleton.1 hx] at hw; exact absurd rfl hw

end Go.Proofs.YtigomhilcnnjdaaGreat.Spa

/- What the statements about spaces ask, in plain words. No program in it. -/
namespace Go.Proofs.YtigomhilcnnjdaaGreat.Spa
open Go.RowKit Go.Proofs.YtigomhilcnnjdaaGreat
open Go.Proofs.YtigomhilcnnjdaaGreat.Lea (LS Ls findX putL renX untilX)
open Go.Proofs.YtigomhilcnnjdaaGreat.Edi (Ed)

/-- What an edit that is made hangs on. -/
structure Mk (s : Sp) (e : Ed) : Prop where
  rt : RtS s
  ed : Edi.Rt e
  tx : s.tx ≠ 300
  does : DoE s e 0
theorem mk_of {s : Sp} {e : Ed} (h : AppE s e 0) : Mk s e := by
  cases h with
  | does _ h he ht hd => exact ⟨h, he, ht, hd⟩

theorem app_tx {s : Sp} {e : Ed} : (doS s e).tx = s.tx + 1 := rfl
theorem app_nb {s : Sp} {e : Ed} : s.nb ≤ (doS s e).nb := by
  show s.nb ≤ if e.k = 5 then s.nb + 1 else s.nb
  split <;> omega
theorem app_ng {s : Sp} {e : Ed} : s.ng ≤ (doS s e).ng := by
  show s.ng ≤ if e.k = 5 ∨ e.k = 9 then s.ng + 1 else s.ng
  split <;> omega
theorem now_same {s : Sp} {e : Ed} (h : e.k ≠ 8) : (doS s e).now = s.now := if_neg h
theorem now_renew {s : Sp} {e : Ed} (h : e.k = 8) : (doS s e).now = e.n := if_pos h
theorem app_now {s : Sp} {e : Ed} (h : AppE s e 0) : s.now ≤ (doS s e).now := by
  by_cases k : e.k = 8
  · rw [now_renew k]
    cases (mk_of h).does with
    | made k2 _ => omega
    | rem k2 _ => omega
    | ren k2 _ => omega
    | addb k2 _ => omega
    | comp k2 _ => omega
    | setq k2 _ => omega
    | rnw _ hm => cases hm with | ok h1 h2 => exact h1
    | bump k2 _ => omega
    | reop k2 _ => omega
  · rw [now_same k]; exact Int.le_refl _

theorem app_lease {s : Sp} {e : Ed} (h : AppE s e 0) (hk : e.k = 2 ∨ e.k = 10 ∨ e.k = 8) : ∃ u, untilX (doS s e).ls e.c = (u, true) ∧ (doS s e).now + 10 ≤ u := by
  have hm := mk_of h
  have hr := (app_keeps h).2
  have e1 : (doS s e).ls = (renX s.ls e.c (doS s e).now).1 := if_pos (by omega)
  have hn : 0 ≤ (doS s e).now ∧ (doS s e).now ≤ 9007199254740981 := hr.now
  have hR := rnw_of (c := e.c) hm.rt.ls (client_of hm.ed) hn.1 hn.2
  rw [← e1] at hR
  refine ⟨(findX (doS s e).ls e.c).1, ?_, hR.lasts⟩
  rw [Lea.untilX_yes hr.ls]
  have := hR.here
  generalize findX (doS s e).ls e.c = y at *
  obtain ⟨a, b⟩ := y
  simp at this
  rw [this]
theorem right_lease {s : Sp} (h : RtS s) {x : Nd} (hx : x ∈ s.ns) (hw : 0 ≤ x.wr) : (untilX s.ls x.wr).2 = true := by
  rw [Lea.untilX_yes h.ls]
  exact h.wr x hx (by omega)

end Go.Proofs.YtigomhilcnnjdaaGreat.Spa

/- What SpaceQuotas asks, in plain words: a quota is set, or refused, and then a directory is made under it. No program in it. -/
namespace Go.Proofs.YtigomhilcnnjdaaGreat.Spa
open Go.RowKit Go.Proofs.YtigomhilcnnjdaaGreat
open Go.Proofs.YtigomhilcnnjdaaGreat.Lea (LS Ls findX putL renX untilX)
open Go.Proofs.YtigomhilcnnjdaaGreat.Edi (Ed)

def nNew : ByteArray := ⟨#[110, 101, 119]⟩
def newL : List UInt8 := [47, 110, 101, 119]
theorem path_inj {a b : List ByteArray} (ha : ∀ n ∈ a, nameB n = true) (hb : ∀ n ∈ b, nameB n = true) (h : pathL a = pathL b) : a = b := by
  have h1 := cut_back a ha
  rw [h, cut_back b hb] at h1
  exact (Option.some.inj h1).symm
theorem path_list {p : ByteArray} (h : pathB p = true) : Good (splitN p) ∧ (p = rootP ∧ splitN p = [] ∨ p ≠ rootP ∧ splitN p ≠ [] ∧ p.data.toList = pathL (splitN p)) := by
  have h0 : splitE p = 0 := by simpa [pathB] using h
  obtain ⟨hg, hp⟩ := split_ok h0
  refine ⟨hg, ?_⟩
  cases hs : splitN p with
  | nil => rw [hs] at hp; exact .inl ⟨hp, rfl⟩
  | cons n ns =>
    rw [hs] at hp hg
    have e : p.data.toList = pathL (n :: ns) := by
      rw [hp, pathT_ne (by simp), mk_list]
    refine .inr ⟨fun e2 => ?_, by simp, e⟩
    rw [e2] at e
    exact pathL_two (hg.names n (by simp)) e.symm
theorem par_new {p q : ByteArray} (hp : pathB p = true) (hq : pathB q = true) (hE : q.data.toList = (if p = rootP then [] else p.data.toList) ++ newL) : parD q = p := by
  obtain ⟨gp, cp⟩ := path_list hp
  obtain ⟨gq, cq⟩ := path_list hq
  have hN : pathL [nNew] = newL := by decide
  have e1 : q.data.toList = pathL (splitN p ++ [nNew]) := by
    rw [hE, pathL_app, hN]
    rcases cp with ⟨h1, h2⟩ | ⟨h1, h2, h3⟩
    · rw [if_pos h1, h2]; rfl
    · rw [if_neg h1, h3]
  have e2 : splitN q = splitN p ++ [nNew] := by
    rcases cq with ⟨h1, h2⟩ | ⟨h1, h2, h3⟩
    · rw [h1] at hE
      have := congrArg List.length hE
      have hr : rootP.data.toList.length = 1 := rfl
      have hl : newL.length = 4 := rfl
      rw [List.length_append, hr, hl] at this
      omega
    · refine path_inj gq.names (fun n hn => ?_) (h3.symm.trans e1)
      rcases List.mem_append.1 hn with hn | hn
      · exact gp.names n hn
      · rw [List.mem_singleton.1 hn]; decide
  have h0 : splitX q = (splitN p ++ [nNew], 0) := by
    have h5 : splitE q = 0 := by simpa [pathB] using hq
    rw [← e2]
    unfold splitN splitE at *
    generalize splitX q = y at *
    obtain ⟨a, b⟩ := y
    simp only at h5
    rw [h5]
  have hd : pathT (splitN p) = p := (split_ok (by simpa [pathB] using hp)).2.symm
  exact dOf (pxOf h0 hd)

def setQ (p : ByteArray) (n : Int) : Ed := ⟨7, p, ⟨#[]⟩, 0, 0, n, []⟩
def mkD (q : ByteArray) : Ed := ⟨1, q, ⟨#[]⟩, 0, 0, 0, []⟩

theorem setq_ok {s : Sp} {p : ByteArray} {n : Int} (h : AppE s (setQ p n) 0) : ∃ i x, Is s.ns p i x ∧ x.dir = true := by
  cases (mk_of h).does with
  | made k _ => rcases k with k | k <;> simp [setQ] at k
  | rem k _ => simp [setQ] at k
  | ren k _ => simp [setQ] at k
  | addb k _ => simp [setQ] at k
  | comp k _ => simp [setQ] at k
  | setq k hm =>
    cases hm with
    | node _ _ h0 => exact absurd rfl h0
    | ok i x hi hd _ => exact ⟨i, x, hi, hd⟩
  | rnw k _ => simp [setQ] at k
  | bump k _ => simp [setQ] at k
  | reop k _ => simp [setQ] at k
/-- Where there is no directory no quota is set. -/
theorem setq_none {s : Sp} {p : ByteArray} {n E : Int} (h : AppE s (setQ p n) E) (hn : at? s.ns p = none) : E ≠ 0 := by
  rintro rfl
  obtain ⟨i, x, hi, _⟩ := setq_ok h
  rw [hi.at_] at hn; cases hn
theorem setq_file {s : Sp} {p : ByteArray} {n E : Int} (h : AppE s (setQ p n) E) {i : Nat} {x : Nd} (ha : at? s.ns p = some i) (hx : s.ns[i]? = some x) (hd : x.dir = false) : E ≠ 0 := by
  rintro rfl
  obtain ⟨j, y, hi, hy⟩ := setq_ok h
  have e : some j = some i := hi.at_.symm.trans ha
  cases e
  have e2 : some y = some x := hi.nd.symm.trans hx
  cases e2
  rw [hd] at hy; cases hy
theorem at_node {s : Sp} (hR : RtS s) {p : ByteArray} {i : Nat} (ha : at? s.ns p = some i) : ∃ x, Is s.ns p i x := by
  obtain ⟨hi, hp, _⟩ := at_some ha
  refine ⟨s.ns[i], ?_, ha, List.getElem?_eq_getElem hi⟩
  have := hR.tree.fit _ (List.getElem_mem hi)
  unfold fitsB at this
  rw [Bool.and_eq_true, hp] at this
  exact this.1
theorem path_small {p : ByteArray} (h : pathB p = true) : p.size ≤ 120 := by
  obtain ⟨g, c⟩ := path_list h
  rcases c with ⟨h1, _⟩ | ⟨_, _, h3⟩
  · rw [h1]; decide
  · have := g.short
    rw [← h3, list_sz] at this
    exact this
theorem setQ_rt {p : ByteArray} {n : Int} (h : pathB p = true) (h0 : 0 ≤ n) (h1 : n < 70) : Edi.Rt (setQ p n) :=
  ⟨Edi.inB_yes (by show (1 : Int) ≤ 7; decide) (by show (7 : Int) ≤ 10; decide), path_small h, by show 0 ≤ _; omega, by show Edi.inB 0 0 3 = true; decide, by show Edi.inB 0 0 9007199254740991 = true; decide, Edi.inB_yes (by show -1 ≤ n; omega) (by show n ≤ 9007199254740991; omega), by show 0 ≤ _; omega, rfl⟩
theorem setq_full {s : Sp} (hR : RtS s) (ht : s.tx ≠ 300) {p : ByteArray} {n : Int} (h0 : 0 ≤ n) (h1 : n < 70) {i : Nat} {x : Nd} (hi : Is s.ns p i x) (hd : x.dir = true) (hc : n < (cntL s.ns p : Int)) : AppE s (setQ p n) 8 :=
  .does 8 hR (setQ_rt hi.path h0 h1) ht (.setq 8 rfl (.full i x hi hd (by show n ≠ -1; omega) hc))
theorem setq_set {s : Sp} (hR : RtS s) (ht : s.tx ≠ 300) {p : ByteArray} {n : Int} (h0 : 0 ≤ n) (h1 : n < 70) {i : Nat} {x : Nd} (hi : Is s.ns p i x) (hd : x.dir = true) (hc : (cntL s.ns p : Int) ≤ n) : AppE s (setQ p n) 0 :=
  .does 0 hR (setQ_rt hi.path h0 h1) ht (.setq 0 rfl (.ok i x hi hd (fun _ => hc)))
theorem setq_ns {s : Sp} {p : ByteArray} {n : Int} {i : Nat} {x : Nd} (hi : Is s.ns p i x) : (doS s (setQ p n)).ns = s.ns.set i (withQu x n) := by
  have h : (doS s (setQ p n)).ns = updN s.ns p (onN s (setQ p n)) := rfl
  rw [h, hi.upd]; rfl
theorem setq_cnt {s : Sp} {p : ByteArray} {n : Int} {i : Nat} {x : Nd} (hi : Is s.ns p i x) : cntL (doS s (setQ p n)).ns p = cntL s.ns p := by
  rw [setq_ns hi]
  exact cnt_paths (set_paths (y := withQu x n) hi.nd rfl) p
/-- Where a quota is used up nothing more is made. -/
theorem setq_more {s : Sp} {p q : ByteArray} {i : Nat} {x : Nd} (hi : Is s.ns p i x) (hE : q.data.toList = (if p = rootP then [] else p.data.toList) ++ newL) {E : Int} (h : AppE (doS s (setQ p (cntL s.ns p : Int))) (mkD q) E) : E ≠ 0 := by
  rintro rfl
  cases (mk_of h).does with
  | made k hm =>
    cases hm with
    | add _ _ h0 => exact absurd rfl h0
    | ok hA hr =>
      have hq : pathB q = true := by
        cases hA with
        | par _ _ _ _ _ _ h0 => exact absurd rfl h0
        | ok _ hf _ _ _ _ =>
          unfold fitsB at hf
          rw [Bool.and_eq_true] at hf
          exact hf.1
      have hpar : parD (mkD q).p = p := par_new hi.path hq hE
      rw [hpar] at hr
      have hy : withQu x (cntL s.ns p : Int) ∈ (doS s (setQ p (cntL s.ns p : Int))).ns := by
        rw [setq_ns hi]
        exact List.mem_iff_getElem?.2 ⟨i, List.getElem?_set_self hi.lt⟩
      have hu : underB p p = true := by
        have h0 : splitE p = 0 := by simpa [pathB] using hi.path
        exact underB_iff.2 ⟨h0, h0, List.prefix_refl _⟩
      have := room_some hr _ hy (by show (0 : Int) ≤ (cntL s.ns p : Int); omega) (by show underB x.path p = true; rw [hi.eq]; exact hu)
      have e1 : (withQu x (cntL s.ns p : Int)).path = p := hi.eq
      rw [e1, setq_cnt hi] at this
      have e2 : (withQu x (cntL s.ns p : Int)).quota = (cntL s.ns p : Int) := rfl
      omega
  | rem k _ => simp [mkD] at k
  | ren k _ => simp [mkD] at k
  | addb k _ => simp [mkD] at k
  | comp k _ => simp [mkD] at k
  | setq k _ => simp [mkD] at k
  | rnw k _ => simp [mkD] at k
  | bump k _ => simp [mkD] at k
  | reop k _ => simp [mkD] at k

end Go.Proofs.YtigomhilcnnjdaaGreat.Spa

/- What follows of the bytes of a space: what is cut off, twice there, or changed in one byte, is none. No program in it. -/
namespace Go.Proofs.YtigomhilcnnjdaaGreat.Img
open Go.RowKit Go.Proofs.YtigomhilcnnjdaaGreat Go.Proofs.YtigomhilcnnjdaaGreat.Smm
open Go.Proofs.YtigomhilcnnjdaaGreat.Spa (Sp RtS zeroS newS rootN path_list path_small)
open Go.Proofs.YtigomhilcnnjdaaGreat.Lea (LS Ls)
open Go.Proofs.YtigomhilcnnjdaaGreat.Edi (numsB numsB_len)
open Go.Proofs.YtigomhilcnnjdaaGreat.Wir (textB textB_data app_list app_size size_list mk_size numB_len numB_prefix)
open Go.WideShapes (bytes_inj)

/-! ### what is right fits -/
theorem fit_of {x : Nd} (h : fitsB x = true) : FitX x ∧ x.path.size ≤ 120 ∧ x.path.data.toList[0]? = some 47 := by
  have hp : pathB x.path = true := by
    unfold fitsB at h
    exact (Bool.and_eq_true _ _ ▸ h : _ ∧ _).1
  have hs := path_small hp
  have h0 : x.path.data.toList[0]? = some 47 := by
    obtain ⟨_, h1⟩ := path_list hp
    rcases h1 with ⟨h1, _⟩ | ⟨_, h1, h2⟩
    · rw [h1]; rfl
    · rw [h2]
      cases hn : splitN x.path with
      | nil => exact absurd hn h1
      | cons a r => rw [pathL_cons]; rfl
  refine ⟨?_, hs, h0⟩
  have h8 := fits_few h
  unfold fitsB at h
  have h2 := (Bool.and_eq_true _ _ ▸ h : _ ∧ _).2
  cases hd : x.dir with
  | true =>
    rw [hd] at h2
    simp only [if_true, dirB, Bool.and_eq_true, decide_eq_true_eq] at h2
    obtain ⟨⟨k1, k2⟩, k3, k4⟩ := h2
    exact ⟨by omega, h8, by unfold I64; omega, by unfold I64; omega, fun b hb => by rw [List.length_eq_zero_iff.1 k1] at hb; cases hb⟩
  | false =>
    rw [hd] at h2
    simp only [Bool.false_eq_true, if_false, fileB, headB, Bool.and_eq_true, decide_eq_true_eq] at h2
    obtain ⟨⟨⟨⟨k1, k2⟩, k3, k4⟩, k5⟩, k6⟩ := h2
    refine ⟨by omega, h8, by unfold I64; omega, by unfold I64; omega, fun b hb => ?_⟩
    have := List.all_eq_true.1 k6 b hb
    simp only [blkB, numB, Bool.and_eq_true, decide_eq_true_eq] at this
    unfold I64
    omega
theorem lease_fit {s : Sp} (h : RtS s) : ∀ l ∈ s.ls, FitL l := fun l hl => by
  have := h.ls.ok l hl
  exact ⟨by unfold I64; omega, by unfold I64; omega⟩
theorem lease_few {s : Sp} (h : RtS s) : s.ls.length ≤ 4 := by
  have h1 := h.ls.ok
  have h2 := h.ls.up
  have key : ∀ (xs : LS) (m : Int), (∀ x ∈ xs, m ≤ x.c ∧ x.c < 4) → xs.Pairwise (fun x y => x.c < y.c) → m ≤ 4 → (xs.length : Int) ≤ 4 - m := by
    intro xs
    induction xs with
    | nil => intro m _ _ hm; simp; omega
    | cons x r ih =>
      intro m hm hp _
      have hx := hm x (List.mem_cons_self ..)
      obtain ⟨p1, p2⟩ := List.pairwise_cons.1 hp
      have := ih (x.c + 1) (fun y hy => ⟨by have := p1 y hy; omega, (hm y (List.mem_cons_of_mem _ hy)).2⟩) p2 (by omega)
      simp only [List.length_cons]
      omega
  have := key s.ls 0 (fun x hx => ⟨(h1 x hx).1, (h1 x hx).2.1⟩) h2 (by omega)
  omega
theorem rts_fit {s : Sp} (h : RtS s) : FitS s := by
  have h1 := h.tx
  have h2 := h.nb
  have h3 := h.ng
  have h4 := h.now
  have h5 := h.tree.few
  have h6 := lease_few h
  exact ⟨by unfold I64; omega, by unfold I64; omega, by unfold I64; omega, by unfold I64; omega, fun x hx => (fit_of (h.tree.fit x hx)).1, lease_fit h, by omega, by omega⟩

theorem headL_size {zs : List Int} (h : ∀ z ∈ zs, I64 z) (h6 : zs.length = 6) : (headL zs).size ≤ 61 := by
  have := numsB_len zs h
  unfold headL
  rw [mk_sz2, List.length_cons]; omega
theorem leaseP_size {l : Ls} (h : FitL l) : (leaseP l).size ≤ 20 := by
  have := numsB_len [l.c, l.u] h.zs
  unfold leaseP
  rw [mk_sz2]; simpa using this
theorem nodeZ_len (x : Nd) : (nodeZ x).length = 4 + 3 * x.bs.length := by unfold nodeZ; rw [List.length_append, blkZ_len]; rfl
theorem nodeP_size {x : Nd} (h : FitX x) (hp : x.path.size ≤ 120) : (nodeP x).size ≤ 410 := by
  have h1 := numsB_len (nodeZ x) h.zs
  have h2 := numB_len (n := (x.path.size : Int)) (by omega) (by omega)
  rw [nodeZ_len] at h1
  have h3 := h.few
  unfold nodeP textB
  rw [app_size, app_size, mk_sz2, mk_size]; omega
theorem parts_small {s : Sp} (h : RtS s) : Small (partsS s) := by
  intro p hp
  have hf := rts_fit h
  unfold partsS at hp
  rcases List.mem_cons.1 hp with rfl | hp
  · have := headL_size hf.hz rfl; omega
  · rcases List.mem_append.1 hp with hp | hp
    · obtain ⟨x, hx, rfl⟩ := List.mem_map.1 hp
      obtain ⟨k1, k2, _⟩ := fit_of (h.tree.fit x hx)
      have := nodeP_size k1 k2; omega
    · obtain ⟨x, hx, rfl⟩ := List.mem_map.1 hp
      have := leaseP_size (hf.ls x hx); omega
theorem partsS_len (s : Sp) : (partsS s).length = 1 + s.ns.length + s.ls.length := by unfold partsS; simp; omega
theorem sealB_le {p : ByteArray} (h : p.size ≤ 4000) : (sealB p).size ≤ p.size + 14 := by
  have h1 := numB_len (n := (p.size : Int)) (by omega) (by omega)
  rw [sealB_size]; omega
theorem joinL_len : ∀ (ps : List ByteArray) (m : Nat), (∀ p ∈ ps, p.size ≤ m) → m ≤ 4000 → (joinL ps).length ≤ (m + 14) * ps.length
  | [], _, _, _ => by simp [joinL]
  | p :: ps, m, h, hm => by
    have h1 := joinL_len ps m (fun x hx => h x (List.mem_cons_of_mem _ hx)) hm
    have h2 := h p (List.mem_cons_self ..)
    have h3 := sealB_le (p := p) (by omega)
    rw [joinL_cons, List.length_append, size_list, List.length_cons, Nat.mul_add, Nat.mul_one]
    omega
theorem joinL_small {ps : List ByteArray} {k : Nat} (h : Small ps) (hk : ps.length ≤ k) : (joinL ps).length ≤ 4014 * k := by
  have h1 := joinL_len ps 4000 h (Nat.le_refl _)
  have h2 : (4000 + 14) * ps.length ≤ 4014 * k := Nat.mul_le_mul (Nat.le_refl _) hk
  omega
theorem enc_size {s : Sp} (h : RtS s) : (encI s).size ≤ 260910 := by
  have h1 := joinL_small (k := 65) (parts_small h) (by rw [partsS_len]; have := h.tree.few; have := lease_few h; omega)
  unfold encI joinP
  rw [mk_sz2]; omega
theorem dec_back {s : Sp} (h : RtS s) : DecI (encI s) s 0 := .ok s h (parts_small h) rfl

/-! ### too few, too many -/
theorem parts_end {s t : Sp} {m : List ByteArray} (h : partsS s = partsS t ++ m) : m = [] := by
  have hl := congrArg List.length h
  rw [List.length_append, partsS_len, partsS_len] at hl
  unfold partsS at h
  simp only [List.cons_append, List.cons.injEq] at h
  have h3 := (headL_inj (a := headZ s) (b := headZ t) (r := []) (r' := []) rfl (by rw [h.1])).1
  simp only [headZ, List.cons.injEq, and_true] at h3
  obtain ⟨_, _, _, _, k5, k6⟩ := h3
  exact List.length_eq_zero_iff.1 (by omega)
theorem join_cut : ∀ (ps : List ByteArray) (k : Nat), k < (joinL ps).length → ∃ qs p rs j, ps = qs ++ p :: rs ∧ j < (sealB p).size ∧ (joinL ps).take k = joinL qs ++ (sealB p).data.toList.take j
  | [], k, h => by simp [joinL] at h
  | p :: ps, k, h => by
    by_cases hk : k < (sealB p).size
    · refine ⟨[], p, ps, k, rfl, hk, ?_⟩
      rw [joinL_cons, List.take_append_of_le_length (by rw [size_list]; omega)]
      rfl
    · rw [joinL_cons, List.length_append, size_list] at h
      obtain ⟨qs, q, rs, j, h1, h2, h3⟩ := join_cut ps (k - (sealB p).size) (by omega)
      refine ⟨p :: qs, q, rs, j, by rw [h1]; rfl, h2, ?_⟩
      rw [joinL_cons, joinL_cons, List.take_append, List.take_of_length_le (by rw [size_list]; omega), size_list, h3, List.append_assoc]
theorem dec_cut {s : Sp} (h : RtS s) (k : Nat) (hk : k < (encI s).size) : DecI ((encI s).extract 0 k) zeroS 2 := by
  have hS := parts_small h
  have hk2 : k < (joinL (partsS s)).length := by unfold encI joinP at hk; rw [mk_sz2] at hk; exact hk
  obtain ⟨qs, p, rs, j, h1, h2, h3⟩ := join_cut (partsS s) k hk2
  have hq : Small qs := fun x hx => hS x (by rw [h1]; exact List.mem_append_left _ hx)
  have hb : ((encI s).extract 0 k).data.toList = joinL qs ++ (sealB p).data.toList.take j := by
    rw [Wir.cut_list]
    unfold encI joinP
    rw [mk_li, h3]
  by_cases hj : j = 0
  · subst hj
    refine .form qs hq (bytes_inj ?_) fun t ht e => ?_
    · rw [hb]; unfold joinP; rw [mk_li]; simp
    · rw [e] at h1
      have := parts_end h1
      cases this
  · refine .bad qs ((sealB p).extract 0 j) 2 hq ⟨?_, ⟨_, _, open_cut p j h2⟩, by omega⟩ (bytes_inj ?_)
    · rw [← size_list, Wir.cut_list, List.length_take, size_list]; omega
    · rw [hb, app_list, Wir.cut_list]; unfold joinP; rw [mk_li]
theorem dec_twice {s : Sp} (h : RtS s) : DecI (encI s ++ encI s) zeroS 2 := by
  have hS := parts_small h
  refine .form (partsS s ++ partsS s) (fun p hp => (List.mem_append.1 hp).elim (hS p) (hS p)) (by rw [joinP_app]; rfl) fun t ht e => ?_
  have h1 := congrArg List.length e
  rw [List.length_append, partsS_len, partsS_len] at h1
  unfold partsS at e
  simp only [List.cons_append, List.cons.injEq] at e
  have h3 := (headL_inj (a := headZ s) (b := headZ t) (r := []) (r' := []) rfl (by rw [e.1])).1
  simp only [headZ, List.cons.injEq, and_true] at h3
  obtain ⟨_, _, _, _, k5, k6⟩ := h3
  omega

/-! ### one byte -/
theorem set_split {A X A' X' : List UInt8} {k : Nat} {y : UInt8} (hl : A.length = A'.length) (h : (A ++ X).set k y = A' ++ X') : (A' = A.set k y ∧ X' = X ∧ k < A.length) ∨ (A' = A ∧ X' = X.set (k - A.length) y ∧ A.length ≤ k) := by
  by_cases hk : k < A.length
  · rw [List.set_append_left _ _ hk] at h
    obtain ⟨h1, h2⟩ := List.append_inj h (by rw [List.length_set]; exact hl)
    exact .inl ⟨h1.symm, h2.symm, hk⟩
  · rw [List.set_append_right _ _ (by omega)] at h
    obtain ⟨h1, h2⟩ := List.append_inj h hl
    exact .inr ⟨h1.symm, h2.symm, by omega⟩
theorem zig_nat (n : Nat) : Lib.zigzag (n : Int) = 2 * n := by unfold Lib.zigzag; split <;> omega
theorem numB_one {n : Nat} (h : n < 64) : Wir.numB (n : Int) = [(2 * n).toUInt8] := by
  unfold Wir.numB
  rw [zig_nat, Lib.uvarint]
  rw [dif_pos (by omega)]
theorem numB_two {n : Nat} (h : 64 ≤ n) (h2 : n < 8192) : Wir.numB (n : Int) = [(2 * n % 128 + 128).toUInt8, (2 * n / 128).toUInt8] := by
  unfold Wir.numB
  have := Wir.uv_round (z := 2 * n) (by omega) []
  rw [zig_nat]
  simp only [List.nil_append] at this
  rw [this]
  rw [Lib.uvarint, dif_pos (by omega)]
  rfl
structure Kin (p q : ByteArray) : Prop where
  one : ∀ r r', p.data.toList ++ r = q.data.toList ++ r' → p = q
  up : p.size < 64 → 64 ≤ q.size → ∀ c r r', p.data.toList ++ r = c :: (q.data.toList ++ r') → False
  down : q.size < 64 → 64 ≤ p.size → ∀ c r r', q.data.toList ++ r' = c :: (p.data.toList ++ r) → False
theorem num_ne {m n : Nat} (h : m ≠ n) : Wir.numB (m : Int) ≠ Wir.numB (n : Int) := fun e => by
  have := (numB_prefix (n := (m : Int)) (m := (n : Int)) (r := []) (r' := []) (by rw [e])).1
  omega
theorem byte_even {n : Nat} (h : n < 64) : (2 * n).toUInt8.toNat = 2 * n := by
  simp [Nat.toUInt8, UInt8.toNat_ofNat']; omega
theorem byte_big (n : Nat) : (2 * n % 128 + 128).toUInt8.toNat = 2 * n % 128 + 128 := by
  simp [Nat.toUInt8, UInt8.toNat_ofNat']; omega
theorem part_one {p p' : ByteArray} {r r' : List UInt8} {k : Nat} {y : UInt8} (hK : Kin p p') (hp : p.size ≤ 4000) (hp' : p'.size ≤ 4000) (h : ((sealB p).data.toList ++ r).set k y = (sealB p').data.toList ++ r') : p = p' := by
  rw [sealB_list, sealB_list, textB_data, textB_data, List.append_assoc, List.append_assoc, List.append_assoc, List.append_assoc] at h
  by_cases hs : p.size = p'.size
  · rw [hs] at h
    rcases set_split rfl h with ⟨_, h1, _⟩ | ⟨_, h1, _⟩
    · obtain ⟨h2, _⟩ := List.append_inj h1 (by rw [size_list, size_list, hs])
      exact (bytes_inj h2).symm
    · rcases set_split (by rw [size_list, size_list, hs]) h1.symm with ⟨h2, h3, h4⟩ | ⟨h2, _, _⟩
      · obtain ⟨h5, _⟩ := List.append_inj h3 (by simp [q4B])
        have h6 := q4B_inj (sumN_lt _) (sumN_lt _) h5
        rw [h2] at h6
        by_cases hy : p.data.toList[k - (Wir.numB (p'.size : Int)).length]? = some y
        · refine bytes_inj ?_
          rw [h2]
          obtain ⟨_, e⟩ := List.getElem?_eq_some_iff.1 hy
          rw [← e, List.set_getElem_self]
        · exact absurd h6 (sum_set _ _ _ h4 hy)
      · exact (bytes_inj h2).symm
  · have hne := num_ne hs
    by_cases h1 : p.size < 64
    · by_cases h2 : p'.size < 64
      · rcases set_split (by rw [numB_one h1, numB_one h2]; rfl) h with ⟨_, h3, _⟩ | ⟨h3, _, _⟩
        · exact hK.one _ _ h3.symm
        · exact absurd h3.symm hne
      · rw [numB_one h1, numB_two (by omega) (by omega)] at h
        have h' : ([(2 * p.size).toUInt8] ++ (p.data.toList ++ (q4B (sumN p.data.toList) ++ r))).set k y = [(2 * p'.size % 128 + 128).toUInt8] ++ ((2 * p'.size / 128).toUInt8 :: (p'.data.toList ++ (q4B (sumN p'.data.toList) ++ r'))) := h
        rcases set_split (by simp) h' with ⟨_, h3, _⟩ | ⟨h3, _, _⟩
        · exact (hK.up h1 (by omega) _ _ _ h3.symm).elim
        · simp only [List.cons.injEq, and_true] at h3
          have h4 := congrArg UInt8.toNat h3
          rw [byte_even h1, byte_big] at h4
          omega
    · by_cases h2 : p'.size < 64
      · rw [numB_one h2, numB_two (by omega) (by omega)] at h
        have h' : ([(2 * p.size % 128 + 128).toUInt8] ++ ((2 * p.size / 128).toUInt8 :: (p.data.toList ++ (q4B (sumN p.data.toList) ++ r)))).set k y = [(2 * p'.size).toUInt8] ++ (p'.data.toList ++ (q4B (sumN p'.data.toList) ++ r')) := h
        rcases set_split (by simp) h' with ⟨_, h3, _⟩ | ⟨h3, _, _⟩
        · exact (hK.down h2 (by omega) _ _ _ h3).elim
        · simp only [List.cons.injEq, and_true] at h3
          have h4 := congrArg UInt8.toNat h3
          rw [byte_even h2, byte_big] at h4
          omega
      · rcases set_split (by rw [numB_two (by omega) (by omega), numB_two (by omega) (by omega)]; rfl) h with ⟨_, h3, _⟩ | ⟨h3, _, _⟩
        · exact hK.one _ _ h3.symm
        · exact absurd h3.symm hne
def KinL : List ByteArray → List ByteArray → Prop
  | [], [] => True
  | p :: ps, q :: qs => Kin p q ∧ KinL ps qs
  | _, _ => False
theorem join_set : ∀ (ps qs : List ByteArray) (k : Nat) (y : UInt8), KinL ps qs → Small ps → Small qs → (joinL ps).set k y = joinL qs → ps = qs
  | [], [], _, _, _, _, _, _ => rfl
  | [], _ :: _, _, _, h, _, _, _ => h.elim
  | _ :: _, [], _, _, h, _, _, _ => h.elim
  | p :: ps, q :: qs, k, y, h, hp, hq, he => by
    rw [joinL_cons, joinL_cons] at he
    obtain rfl := part_one h.1 (hp p (List.mem_cons_self ..)) (hq q (List.mem_cons_self ..)) he
    have h1 : Small ps := fun x hx => hp x (List.mem_cons_of_mem _ hx)
    have h2 : Small qs := fun x hx => hq x (List.mem_cons_of_mem _ hx)
    rcases set_split rfl he with ⟨_, h3, _⟩ | ⟨_, h3, _⟩
    · rw [joinP_inj h2 h1 (by unfold joinP; rw [h3])]
    · rw [join_set ps qs _ y h.2 h1 h2 h3.symm]
theorem kin_map {α : Type} {f : α → ByteArray} : ∀ (xs ys : List α), xs.length = ys.length → (∀ x ∈ xs, ∀ y ∈ ys, Kin (f x) (f y)) → KinL (xs.map f) (ys.map f)
  | [], [], _, _ => trivial
  | [], _ :: _, h, _ => by simp at h
  | _ :: _, [], h, _ => by simp at h
  | x :: xs, y :: ys, h, hk => ⟨hk x (List.mem_cons_self ..) y (List.mem_cons_self ..), kin_map xs ys (by simpa using h) fun a ha b hb => hk a (List.mem_cons_of_mem _ ha) b (List.mem_cons_of_mem _ hb)⟩
theorem kin_app : ∀ (a b c d : List ByteArray), KinL a b → KinL c d → KinL (a ++ c) (b ++ d)
  | [], [], _, _, _, h => h
  | [], _ :: _, _, _, h, _ => h.elim
  | _ :: _, [], _, _, h, _ => h.elim
  | _ :: a, _ :: b, c, d, h, k => ⟨h.1, kin_app a b c d h.2 k⟩
theorem kin_up {x y : Nd} (px : x.path.size ≤ 120) (sx : x.path.data.toList[0]? = some 47) (py : y.path.size ≤ 120) (h : (nodeP x).size < 64) {c : UInt8} {r r' : List UInt8} (he : (nodeP x).data.toList ++ r = c :: ((nodeP y).data.toList ++ r')) : False := by
  have h1 : x.path.size < 64 := by
    unfold nodeP textB at h
    rw [app_size, app_size] at h
    omega
  rw [nodeP_list, nodeP_list, textB_data, textB_data, numB_one h1] at he
  obtain ⟨pr, hpr⟩ : ∃ pr, x.path.data.toList = 47 :: pr := by
    cases hl : x.path.data.toList with
    | nil => rw [hl] at sx; cases sx
    | cons a b => rw [hl] at sx; simp at sx; rw [sx]; exact ⟨b, rfl⟩
  rw [hpr] at he
  simp only [List.cons_append, List.nil_append, List.cons.injEq] at he
  have h2 := he.2
  by_cases h3 : y.path.size < 64
  · rw [numB_one h3] at h2
    simp only [List.cons_append, List.cons.injEq] at h2
    have h4 := congrArg UInt8.toNat h2.1
    rw [byte_even h3] at h4
    have : (47 : UInt8).toNat = 47 := rfl
    omega
  · rw [numB_two (by omega) (by omega)] at h2
    simp only [List.cons_append, List.cons.injEq] at h2
    have h4 := congrArg UInt8.toNat h2.1
    rw [byte_big] at h4
    have : (47 : UInt8).toNat = 47 := rfl
    omega
theorem kin_node {x y : Nd} (hx : fitsB x = true) (hy : fitsB y = true) : Kin (nodeP x) (nodeP y) := by
  obtain ⟨_, a2, a3⟩ := fit_of hx
  obtain ⟨_, b2, b3⟩ := fit_of hy
  exact ⟨fun r r' h => by rw [(nodeP_inj h).1], fun h _ c r r' he => kin_up a2 a3 b2 h he, fun h _ c r r' he => kin_up b2 b3 a2 h he⟩
theorem kin_lease {x y : Ls} (hx : FitL x) (hy : FitL y) : Kin (leaseP x) (leaseP y) := by
  have h1 := leaseP_size hx
  have h2 := leaseP_size hy
  exact ⟨fun r r' h => by rw [(leaseP_inj h).1], fun _ h => by omega, fun _ h => by omega⟩
theorem kin_head {a b : List Int} (ha : ∀ z ∈ a, I64 z) (hb : ∀ z ∈ b, I64 z) (h6 : a.length = 6) (k6 : b.length = 6) : Kin (headL a) (headL b) := by
  have h1 := headL_size ha h6
  have h2 := headL_size hb k6
  exact ⟨fun r r' h => by rw [(headL_inj (by omega) h).1], fun _ h => by omega, fun _ h => by omega⟩
/-- The bytes of two spaces that are unlike in one byte alone: there are none. -/
theorem byte_told {s t : Sp} (hs : RtS s) (ht : RtS t) (k : Nat) (y : UInt8) (h : (encI s).data.toList.set k y = (encI t).data.toList) : s = t := by
  have fs := rts_fit hs
  have ft := rts_fit ht
  unfold encI joinP at h
  rw [mk_li, mk_li] at h
  have hS := parts_small hs
  have hT := parts_small ht
  have hh : headL (headZ s) = headL (headZ t) := by
    have h' := h
    unfold partsS at h'
    rw [joinL_cons, joinL_cons] at h'
    exact part_one (kin_head fs.hz ft.hz rfl rfl) (hS _ (List.mem_cons_self ..)) (hT _ (List.mem_cons_self ..)) h'
  have h3 := (headL_inj (a := headZ s) (b := headZ t) (r := []) (r' := []) rfl (by rw [hh])).1
  simp only [headZ, List.cons.injEq, and_true] at h3
  obtain ⟨_, _, _, _, k5, k6⟩ := h3
  refine partsS_inj (join_set _ _ k y ⟨kin_head fs.hz ft.hz rfl rfl, kin_app _ _ _ _ (kin_map _ _ (by omega) fun x hx z hz => kin_node (hs.tree.fit x hx) (ht.tree.fit z hz)) (kin_map _ _ (by omega) fun x hx z hz => kin_lease (fs.ls x hx) (ft.ls z hz))⟩ hS hT h)
theorem dec_bit {s : Sp} (hs : RtS s) {k : Nat} {y : UInt8} (hk : k < (encI s).size) (hy : (encI s).data.toList[k]? ≠ some y) {t : Sp} {E : Int} (h : DecI (mk ((encI s).data.toList.set k y)) t E) : t = zeroS ∧ E ≠ 0 := by
  cases h with
  | ok _ h1 h2 h3 =>
    have h4 := congrArg (fun x => x.data.toList) h3
    simp only [mk_li] at h4
    obtain rfl := byte_told hs h1 k y h4
    exfalso
    apply hy
    rw [← h4, List.getElem?_set_self (by rw [size_list]; exact hk)]
  | form ps h1 h2 h3 => exact ⟨rfl, by omega⟩
  | bad ps r e h1 h2 h3 => exact ⟨rfl, by have := h2.ne; omega⟩
theorem enc_same {s t : Sp} (hs : RtS s) (ht : RtS t) : encI s = encI t ↔ s = t :=
  ⟨fun h => partsS_inj (joinP_inj (parts_small hs) (parts_small ht) h), fun h => by rw [h]⟩

end Go.Proofs.YtigomhilcnnjdaaGreat.Img

/- How the parts of a space are read, number by number, in plain words. No program in it. -/
namespace Go.Proofs.YtigomhilcnnjdaaGreat.Img
open Go.RowKit Go.Proofs.YtigomhilcnnjdaaGreat Go.Proofs.YtigomhilcnnjdaaGreat.Smm
open Go.Proofs.YtigomhilcnnjdaaGreat.Spa (Sp RtS zeroS newS rootN)
open Go.Proofs.YtigomhilcnnjdaaGreat.Lea (LS Ls)
open Go.Proofs.YtigomhilcnnjdaaGreat.Edi (numsB numsB_len takeN takeN_back takeN_sound takeN_size takeT_back2 takeT_less)
open Go.Proofs.YtigomhilcnnjdaaGreat.Wir (textB takeT takeT_sound app_list app_size size_list)
open Go.WideShapes (bytes_inj)

/-- What is left, and whether all was there. -/
abbrev St := ByteArray × Bool
def numS (s : St) : Int × St := match takeN s.1 with
  | none => (0, (⟨#[]⟩, false))
  | some (n, r) => (n, (r, s.2))
def txtS (s : St) : ByteArray × St := match takeT s.1 with
  | none => (⟨#[]⟩, (⟨#[]⟩, false))
  | some (t, r) => (t, (r, s.2))
theorem numS_no {s : St} (h : takeN s.1 = none) : numS s = (0, (⟨#[]⟩, false)) := by unfold numS; rw [h]
theorem numS_yes {s : St} {n : Int} {r : ByteArray} (h : takeN s.1 = some (n, r)) : numS s = (n, (r, s.2)) := by unfold numS; rw [h]
theorem txtS_no {s : St} (h : takeT s.1 = none) : txtS s = (⟨#[]⟩, (⟨#[]⟩, false)) := by unfold txtS; rw [h]
theorem txtS_yes {s : St} {t r : ByteArray} (h : takeT s.1 = some (t, r)) : txtS s = (t, (r, s.2)) := by unfold txtS; rw [h]
theorem numS_i64 (s : St) : I64 (numS s).1 := by
  cases h : takeN s.1 with
  | none => rw [numS_no h]; unfold I64; simp
  | some p => obtain ⟨n, r⟩ := p; rw [numS_yes h]; exact (takeN_sound h).2
theorem numS_size (s : St) : (numS s).2.1.size ≤ s.1.size := by
  cases h : takeN s.1 with
  | none => rw [numS_no h]; exact Nat.zero_le _
  | some p => obtain ⟨n, r⟩ := p; rw [numS_yes h]; exact takeN_size h
theorem txtS_size (s : St) : (txtS s).2.1.size ≤ s.1.size := by
  cases h : takeT s.1 with
  | none => rw [txtS_no h]; exact Nat.zero_le _
  | some p => obtain ⟨n, r⟩ := p; rw [txtS_yes h]; exact takeT_less h
theorem txtS_small (s : St) : (txtS s).1.size ≤ 4000 := by
  cases h : takeT s.1 with
  | none => rw [txtS_no h]; exact Nat.zero_le _
  | some p => obtain ⟨n, r⟩ := p; rw [txtS_yes h]; exact (takeT_sound h).2
theorem numS_ok {s : St} {n : Int} {r : ByteArray} (h : numS s = (n, (r, true))) : s.2 = true ∧ s.1.data.toList = Wir.numB n ++ r.data.toList ∧ I64 n := by
  cases hT : takeN s.1 with
  | none => rw [numS_no hT] at h; simp at h
  | some p =>
    obtain ⟨m, q⟩ := p
    rw [numS_yes hT] at h
    simp only [Prod.mk.injEq] at h
    obtain ⟨rfl, rfl, h2⟩ := h
    exact ⟨h2, takeN_sound hT⟩
theorem numS_back {b r : ByteArray} {n : Int} (ok : Bool) (hn : I64 n) (h : b.data.toList = Wir.numB n ++ r.data.toList) : numS (b, ok) = (n, (r, ok)) :=
  numS_yes (s := (b, ok)) (takeN_back n r hn.1 hn.2 h)
theorem txtS_ok {s : St} {t r : ByteArray} (h : txtS s = (t, (r, true))) : s.2 = true ∧ s.1.data.toList = (textB t).data.toList ++ r.data.toList ∧ t.size ≤ 4000 := by
  cases hT : takeT s.1 with
  | none => rw [txtS_no hT] at h; simp at h
  | some p =>
    obtain ⟨m, q⟩ := p
    rw [txtS_yes hT] at h
    simp only [Prod.mk.injEq] at h
    obtain ⟨rfl, rfl, h2⟩ := h
    exact ⟨h2, takeT_sound hT⟩
theorem txtS_back {b t r : ByteArray} (ok : Bool) (ht : t.size ≤ 4000) (h : b.data.toList = (textB t).data.toList ++ r.data.toList) : txtS (b, ok) = (t, (r, ok)) :=
  txtS_yes (s := (b, ok)) (takeT_back2 t r ht h)
/-- k numbers. -/
def numsS : Nat → St → List Int × St
  | 0, s => ([], s)
  | k + 1, s => ((numS s).1 :: (numsS k (numS s).2).1, (numsS k (numS s).2).2)
theorem numsS_ok : ∀ (k : Nat) (s : St) (zs : List Int) (r : ByteArray), numsS k s = (zs, (r, true)) → s.2 = true ∧ zs.length = k ∧ s.1.data.toList = numsB zs ++ r.data.toList ∧ ∀ z ∈ zs, I64 z
  | 0, s, zs, r, h => by
    simp only [numsS, Prod.mk.injEq] at h
    obtain ⟨rfl, h⟩ := h
    rw [h]
    exact ⟨rfl, rfl, rfl, fun z hz => by cases hz⟩
  | k + 1, s, zs, r, h => by
    simp only [numsS, Prod.mk.injEq] at h
    obtain ⟨rfl, h⟩ := h
    obtain ⟨⟨n, s1⟩, hs1⟩ : ∃ x, numS s = x := ⟨_, rfl⟩
    rw [hs1] at h ⊢
    simp only at h ⊢
    obtain ⟨h1, h2, h3, h4⟩ := numsS_ok k s1 _ r (Prod.ext rfl h)
    obtain ⟨s1a, s1b⟩ := s1
    simp only at h1 h3
    subst h1
    obtain ⟨k1, k2, k3⟩ := numS_ok hs1
    refine ⟨k1, by rw [List.length_cons, h2], ?_, fun z hz => ?_⟩
    · rw [k2, h3, numsB_cons, List.append_assoc]
    · rcases List.mem_cons.1 hz with rfl | hz
      · exact k3
      · exact h4 z hz
theorem numsS_back : ∀ (zs : List Int) (b r : ByteArray) (ok : Bool), (∀ z ∈ zs, I64 z) → b.data.toList = numsB zs ++ r.data.toList → numsS zs.length (b, ok) = (zs, (r, ok))
  | [], b, r, ok, _, h => by
    have : b = r := bytes_inj (by rw [h]; rfl)
    subst this; rfl
  | z :: zs, b, r, ok, hz, h => by
    rw [numsB_cons, List.append_assoc] at h
    have h1 := numS_back (b := b) (r := mk (numsB zs ++ r.data.toList)) ok (hz z (List.mem_cons_self ..)) (by rw [mk_li]; exact h)
    rw [List.length_cons, numsS, h1]
    simp only
    rw [numsS_back zs _ r ok (fun x hx => hz x (List.mem_cons_of_mem _ hx)) (mk_li _)]
/-- All was there, and nothing is left. -/
def endB (s : St) : Bool := s.2 && s.1.toList.isEmpty
theorem empty_iff (b : ByteArray) : b.toList.isEmpty = true ↔ b = ⟨#[]⟩ := by
  rw [ByteArray.toList_eq, List.isEmpty_iff]
  exact ⟨fun h => bytes_inj (by rw [h]), fun h => by rw [h]⟩
theorem endB_iff {s : St} : endB s = true ↔ s = (⟨#[]⟩, true) := by
  unfold endB
  rw [Bool.and_eq_true, empty_iff]
  exact ⟨fun h => Prod.ext h.2 h.1, fun h => by rw [h]; exact ⟨rfl, rfl⟩⟩
theorem nums_iff {k : Nat} {s s' : St} {zs : List Int} (h : numsS k s = (zs, s')) : (endB s' = true → s.2 = true ∧ zs.length = k ∧ (∀ z ∈ zs, I64 z) ∧ s.1.data.toList = numsB zs) ∧ (endB s' = false → s.2 = true → ∀ ys : List Int, ys.length = k → (∀ z ∈ ys, I64 z) → s.1.data.toList ≠ numsB ys) := by
  constructor
  · intro he
    rw [endB_iff.1 he] at h
    obtain ⟨h1, h2, h3, h4⟩ := numsS_ok k s zs _ h
    exact ⟨h1, h2, h4, by rw [h3]; simp⟩
  · intro he ht ys hl hy hs
    obtain ⟨b, ok⟩ := s
    simp only at ht hs
    subst ht
    have h1 := numsS_back ys b ⟨#[]⟩ true hy (by rw [hs]; simp)
    rw [hl, h] at h1
    simp only [Prod.mk.injEq] at h1
    rw [h1.2, endB_iff.2 rfl] at he
    cases he
/-- Of k numbers and m more. -/
theorem numsS_add : ∀ (k m : Nat) (s : St), numsS (k + m) s = ((numsS k s).1 ++ (numsS m (numsS k s).2).1, (numsS m (numsS k s).2).2)
  | 0, m, s => by simp [numsS]
  | k + 1, m, s => by
    rw [Nat.succ_add, numsS, numsS_add k m]
    rfl

/-! ### a lease -/
theorem lease_iff {part : ByteArray} {z0 z1 : Int} {s1 s2 : St} (h0 : numS (part, true) = (z0, s1)) (h1 : numS s1 = (z1, s2)) :
    (endB s2 = true → part = leaseP ⟨z0, z1⟩ ∧ FitL ⟨z0, z1⟩) ∧ (endB s2 = false → ∀ l, FitL l → part ≠ leaseP l) := by
  have hn : numsS 2 (part, true) = ([z0, z1], s2) := by simp [numsS, h0, h1]
  obtain ⟨k1, k2⟩ := nums_iff hn
  constructor
  · intro he
    obtain ⟨_, _, h3, h4⟩ := k1 he
    refine ⟨bytes_inj ?_, ⟨h3 z0 (by simp), h3 z1 (by simp)⟩⟩
    unfold leaseP
    rw [mk_li]; exact h4
  · intro he l hl e
    refine k2 he rfl [l.c, l.u] rfl hl.zs ?_
    rw [e]; unfold leaseP; rw [mk_li]
/-! ### the head -/
theorem head_iff {part left : ByteArray} (hp : part.data.toList = 84 :: left.data.toList) {z0 z1 z2 z3 z4 z5 : Int} {s1 s2 s3 s4 s5 s6 : St} (h0 : numS (left, true) = (z0, s1)) (h1 : numS s1 = (z1, s2)) (h2 : numS s2 = (z2, s3)) (h3 : numS s3 = (z3, s4)) (h4 : numS s4 = (z4, s5)) (h5 : numS s5 = (z5, s6)) :
    (endB s6 = true → part = headL [z0, z1, z2, z3, z4, z5] ∧ ∀ z ∈ [z0, z1, z2, z3, z4, z5], I64 z) ∧ (endB s6 = false → ∀ zs : List Int, zs.length = 6 → (∀ z ∈ zs, I64 z) → part ≠ headL zs) := by
  have hn : numsS 6 (left, true) = ([z0, z1, z2, z3, z4, z5], s6) := by simp [numsS, h0, h1, h2, h3, h4, h5]
  obtain ⟨k1, k2⟩ := nums_iff hn
  constructor
  · intro he
    obtain ⟨_, _, q3, q4⟩ := k1 he
    refine ⟨bytes_inj ?_, q3⟩
    unfold headL
    rw [mk_li, hp, q4]
  · intro he zs hl hz e
    refine k2 he rfl zs hl hz ?_
    rw [e] at hp
    unfold headL at hp
    rw [mk_li] at hp
    exact (List.cons.inj hp).2.symm
theorem head_no {part : ByteArray} (h : ∀ left : ByteArray, part.data.toList ≠ 84 :: left.data.toList) (zs : List Int) : part ≠ headL zs := fun e => by
  refine h (mk (numsB zs)) ?_
  rw [e]; unfold headL; rw [mk_li, mk_li]
/-! ### a node -/
/-- Blocks, number by number. -/
def blksS : Nat → St → List Blk × St
  | 0, s => ([], s)
  | k + 1, s => (⟨(numS s).1, (numS (numS s).2).1, (numS (numS (numS s).2).2).1⟩ :: (blksS k (numS (numS (numS s).2).2).2).1, (blksS k (numS (numS (numS s).2).2).2).2)
theorem blksS_nums : ∀ (k : Nat) (s : St), numsS (3 * k) s = (blkZ (blksS k s).1, (blksS k s).2)
  | 0, s => rfl
  | k + 1, s => by
    have e : 3 * (k + 1) = (3 * k) + 1 + 1 + 1 := by omega
    rw [e, numsS, numsS, numsS, blksS_nums k, blksS]
    simp only [blkZ_cons]
theorem blksS_len : ∀ (k : Nat) (s : St), (blksS k s).1.length = k
  | 0, _ => rfl
  | k + 1, s => by rw [blksS, List.length_cons, blksS_len k]
theorem blksS_next : ∀ (k : Nat) (s : St), blksS (k + 1) s = ((blksS k s).1 ++ [⟨(numS (blksS k s).2).1, (numS (numS (blksS k s).2).2).1, (numS (numS (numS (blksS k s).2).2).2).1⟩], (numS (numS (numS (blksS k s).2).2).2).2)
  | 0, s => rfl
  | k + 1, s => by
    rw [blksS, blksS_next k]
    simp only [blksS, List.cons_append]
theorem blksS_size : ∀ (k : Nat) (s : St), (blksS k s).2.1.size ≤ s.1.size
  | 0, _ => Nat.le_refl _
  | k + 1, s => by
    rw [blksS_next]
    have h1 := blksS_size k s
    have h2 := numS_size (blksS k s).2
    have h3 := numS_size (numS (blksS k s).2).2
    have h4 := numS_size (numS (numS (blksS k s).2).2).2
    simp only
    omega
theorem node_iff {part p : ByteArray} {z0 z1 z2 : Int} {m : Nat} {s1 s2 s3 s4 s5 : St} (h0 : txtS (part, true) = (p, s1)) (h1 : numS s1 = (z0, s2)) (h2 : numS s2 = (z1, s3)) (h3 : numS s3 = (z2, s4)) (h4 : numS s4 = ((m : Int), s5)) (hk : z0 = 0 ∨ z0 = 1) (hm : m ≤ 8) :
    (endB (blksS m s5).2 = true → part = nodeP ⟨p, z0 == 1, z1, (blksS m s5).1, z2⟩ ∧ FitX ⟨p, z0 == 1, z1, (blksS m s5).1, z2⟩) ∧ (endB (blksS m s5).2 = false → ∀ x, FitX x → part ≠ nodeP x) := by
  have hn : numsS (4 + 3 * m) s1 = ([z0, z1, z2, (m : Int)] ++ blkZ (blksS m s5).1, (blksS m s5).2) := by
    have h4' : numsS 4 s1 = ([z0, z1, z2, (m : Int)], s5) := by simp [numsS, h1, h2, h3, h4]
    rw [numsS_add, h4']
    simp only
    rw [blksS_nums]
  have hkd : kindZ (z0 == 1) = z0 := by rcases hk with rfl | rfl <;> rfl
  have hlen := blksS_len m s5
  obtain ⟨k1, k2⟩ := nums_iff hn
  constructor
  · intro he
    obtain ⟨q1, _, q3, q4⟩ := k1 he
    obtain ⟨s1a, s1b⟩ := s1
    simp only at q1 q4
    subst q1
    obtain ⟨_, r2, r3⟩ := txtS_ok h0
    have hz : nodeZ ⟨p, z0 == 1, z1, (blksS m s5).1, z2⟩ = [z0, z1, z2, (m : Int)] ++ blkZ (blksS m s5).1 := by
      unfold nodeZ
      simp only
      rw [hkd, hlen]
    refine ⟨bytes_inj ?_, ⟨r3, by simp only; omega, q3 z1 (by simp), q3 z2 (by simp), fun b hb => ?_⟩⟩
    · rw [nodeP_list, hz, ← q4]
      exact r2
    · have hsub : ∀ z ∈ [b.id, b.gen, b.len], I64 z := fun z hz => q3 z (List.mem_append_right _ (List.mem_flatMap.2 ⟨b, hb, hz⟩))
      exact ⟨hsub _ (by simp), hsub _ (by simp), hsub _ (by simp)⟩
  · intro he x hx e
    have hl : part.data.toList = (textB x.path).data.toList ++ (mk (numsB (nodeZ x))).data.toList := by rw [e, nodeP_list, mk_li]
    have h5 := txtS_back (b := part) (r := mk (numsB (nodeZ x))) true hx.path hl
    rw [h0] at h5
    simp only [Prod.mk.injEq] at h5
    obtain ⟨rfl, rfl⟩ := h5
    have hb := numsS_back [kindZ x.dir, x.quota, x.wr, (x.bs.length : Int)] (mk (numsB (nodeZ x))) (mk (numsB (blkZ x.bs))) true (fun z hz => hx.zs z (List.mem_append_left _ hz)) (by rw [mk_li, mk_li]; unfold nodeZ; rw [numsB_app])
    have h4' : numsS 4 (mk (numsB (nodeZ x)), true) = ([z0, z1, z2, (m : Int)], s5) := by simp [numsS, h1, h2, h3, h4]
    rw [show [kindZ x.dir, x.quota, x.wr, (x.bs.length : Int)].length = 4 from rfl, h4'] at hb
    simp only [Prod.mk.injEq, List.cons.injEq, and_true] at hb
    obtain ⟨⟨_, _, _, hmm⟩, hs5⟩ := hb
    have hml : x.bs.length = m := by omega
    refine k2 he rfl (nodeZ x) (by rw [nodeZ_len, hml]) hx.zs ?_
    simp only
    rw [mk_li]
theorem node_bad {part p : ByteArray} {z0 z1 z2 z3 : Int} {s1 s2 s3 s4 s5 : St} (h0 : txtS (part, true) = (p, s1)) (h1 : numS s1 = (z0, s2)) (h2 : numS s2 = (z1, s3)) (h3 : numS s3 = (z2, s4)) (h4 : numS s4 = (z3, s5)) (hk : ¬ ((0 ≤ z0 ∧ z0 ≤ 1) ∧ (0 ≤ z3 ∧ z3 ≤ 8))) : ∀ x, FitX x → part ≠ nodeP x := by
  intro x hx e
  have hl : part.data.toList = (textB x.path).data.toList ++ (mk (numsB (nodeZ x))).data.toList := by rw [e, nodeP_list, mk_li]
  have h5 := txtS_back (b := part) (r := mk (numsB (nodeZ x))) true hx.path hl
  rw [h0] at h5
  simp only [Prod.mk.injEq] at h5
  obtain ⟨rfl, rfl⟩ := h5
  have hb := numsS_back [kindZ x.dir, x.quota, x.wr, (x.bs.length : Int)] (mk (numsB (nodeZ x))) (mk (numsB (blkZ x.bs))) true (fun z hz => hx.zs z (List.mem_append_left _ hz)) (by rw [mk_li, mk_li]; unfold nodeZ; rw [numsB_app])
  have h4' : numsS 4 (mk (numsB (nodeZ x)), true) = ([z0, z1, z2, z3], s5) := by simp [numsS, h1, h2, h3, h4]
  rw [show [kindZ x.dir, x.quota, x.wr, (x.bs.length : Int)].length = 4 from rfl, h4'] at hb
  simp only [Prod.mk.injEq, List.cons.injEq, and_true] at hb
  obtain ⟨⟨r0, _, _, r3⟩, _⟩ := hb
  have h8 := hx.few
  apply hk
  constructor
  · rw [r0]; unfold kindZ; cases x.dir <;> simp
  · omega

end Go.Proofs.YtigomhilcnnjdaaGreat.Img

/- The chapter's example, in plain words: a file is made, a block is added, another client is refused, the file is completed, and opened again. No program in it. -/
namespace Go.Proofs.YtigomhilcnnjdaaGreat.Spa
open Go.RowKit Go.Proofs.YtigomhilcnnjdaaGreat
open Go.Proofs.YtigomhilcnnjdaaGreat.Lea (LS Ls findX putL renX)
open Go.Proofs.YtigomhilcnnjdaaGreat.Edi (Ed)

def pF : ByteArray := ⟨#[47, 102]⟩
def nF : ByteArray := ⟨#[102]⟩
theorem sF : splitX pF = ([nF], 0) := exP (good_of (by decide) (by decide) (by decide)) (by decide)
theorem xF : parentX pF = (rootP, nF, 0) := pxOf (ns := []) sF rfl

def ex1 : Ed := ⟨2, pF, ⟨#[]⟩, 1, 0, 0, []⟩
def ex2 : Ed := ⟨5, pF, ⟨#[]⟩, 1, 0, 0, []⟩
def ex3 : Ed := ⟨5, pF, ⟨#[]⟩, 2, 0, 0, []⟩
def ex4 : Ed := ⟨6, pF, ⟨#[]⟩, 1, 0, 0, [5]⟩
def ex5 : Ed := ⟨10, pF, ⟨#[]⟩, 2, 0, 0, []⟩
def fN (bs : List Blk) (c : Int) : Nd := ⟨pF, false, -1, bs, c⟩

theorem rt1 : Edi.Rt ex1 := ⟨by decide, by decide, by decide, by decide, by decide, by decide, by decide, by decide⟩
theorem rt2 : Edi.Rt ex2 := ⟨by decide, by decide, by decide, by decide, by decide, by decide, by decide, by decide⟩
theorem rt3 : Edi.Rt ex3 := ⟨by decide, by decide, by decide, by decide, by decide, by decide, by decide, by decide⟩
theorem rt4 : Edi.Rt ex4 := ⟨by decide, by decide, by decide, by decide, by decide, by decide, by decide, by decide⟩
theorem rt5 : Edi.Rt ex5 := ⟨by decide, by decide, by decide, by decide, by decide, by decide, by decide, by decide⟩

theorem is_f (bs : List Blk) (c : Int) : Is [rootN, fN bs c] pF 1 (fN bs c) :=
  ⟨bOf sF, at_is (by simp) rfl (fun j hj => by
    obtain rfl : j = 0 := by omega
    show rootP ≠ pF
    decide), rfl⟩
theorem fits_f : fitsB (newN ex1) = true := file_fits rfl (bOf sF) (by decide) rfl (by decide) (by decide) (fun b hb => by cases hb)
theorem a1 : AppE newS ex1 0 := by
  refine .does 0 new_right rt1 (by decide) (.made 0 (.inr rfl) (.ok (.ok new_right.tree fits_f (by decide) (at_no fun x hx => ?_) ?_ (by decide)) ?_))
  · rw [List.mem_singleton.1 hx]
    decide
  · show dirE [rootN] (parD pF) = 0
    rw [dOf xF]
    decide
  · show 1 ≤ roomI [rootN] (parD pF)
    rw [dOf xF]
    unfold roomI
    rw [if_pos (by decide)]
    unfold roomF roomS
    decide
def S1 : Sp := doS newS ex1
def S2 : Sp := doS S1 ex2
def S3 : Sp := doS S2 ex4
def S4 : Sp := doS S3 ex5
theorem r1 : RtS S1 := (app_keeps a1).2
theorem n1 : S1.ns = [rootN, fN [] 1] := by
  have h : nsOf newS ex1 = sortN ([rootN] ++ [newN ex1]) := if_pos (Or.inr rfl)
  show nsOf newS ex1 = _
  rw [h]
  refine (sortN_is (List.Perm.refl _) ?_).symm
  show Asc [rootN, newN ex1]
  unfold Asc
  simp only [List.pairwise_cons, List.mem_cons, List.not_mem_nil, or_false]
  refine ⟨fun x hx => ?_, fun x hx => hx.elim, List.Pairwise.nil⟩
  subst hx
  exact lt_lit (by decide)
theorem i1 : Is S1.ns pF 1 (fN [] 1) := by rw [n1]; exact is_f _ _
theorem a2 : AppE S1 ex2 0 :=
  .does 0 r1 rt2 (by decide) (.addb 0 rfl (.ok 1 (fN [] 1) ⟨i1, rfl, rfl⟩ ⟨rfl, fun l hl => by cases hl⟩ (by decide) (by decide) (by decide)))
theorem a3 : AppE S1 ex3 9 :=
  .does 9 r1 rt3 (by decide) (.addb 9 rfl (.writ 9 (.lease 1 (fN [] 1) i1 rfl (by decide)) (by decide)))
theorem r2 : RtS S2 := (app_keeps a2).2
theorem n2 : S2.ns = [rootN, fN [⟨1, 1, 0⟩] 1] := by
  have h : S2.ns = updN S1.ns pF (onN S1 ex2) := rfl
  rw [h, i1.upd, n1]
  rfl
theorem i2 : Is S2.ns pF 1 (fN [⟨1, 1, 0⟩] 1) := by rw [n2]; exact is_f _ _
theorem a4 : AppE S2 ex4 0 :=
  .does 0 r2 rt4 (by decide) (.comp 0 rfl (.ok 1 (fN [⟨1, 1, 0⟩] 1) ⟨i2, rfl, rfl⟩ ⟨rfl, fun l hl => by rw [List.mem_singleton.1 hl]; decide⟩))
theorem r3 : RtS S3 := (app_keeps a4).2
theorem n3 : S3.ns = [rootN, fN [⟨1, 1, 5⟩] (-1)] := by
  have h : S3.ns = updN S2.ns pF (onN S2 ex4) := rfl
  rw [h, i2.upd, n2]
  rfl
theorem i3 : Is S3.ns pF 1 (fN [⟨1, 1, 5⟩] (-1)) := by rw [n3]; exact is_f _ _
theorem a5 : AppE S3 ex5 0 :=
  .does 0 r3 rt5 (by decide) (.reop 0 rfl (.ok 1 (fN [⟨1, 1, 5⟩] (-1)) i3 rfl rfl))
theorem r4 : RtS S4 := (app_keeps a5).2
theorem n4 : S4.ns = [rootN, fN [⟨1, 1, 5⟩] 2] := by
  have h : S4.ns = updN S3.ns pF (onN S3 ex5) := rfl
  rw [h, i3.upd, n3]
  rfl
theorem i4 : Is S4.ns pF 1 (fN [⟨1, 1, 5⟩] 2) := by rw [n4]; exact is_f _ _
theorem b2 : blkOf S1 ex2 = ⟨1, 1, 0⟩ := rfl

end Go.Proofs.YtigomhilcnnjdaaGreat.Spa
