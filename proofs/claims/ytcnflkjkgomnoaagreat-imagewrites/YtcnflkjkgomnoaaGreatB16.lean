/- Part 16 of the proof: SpaceM, ImageM, SpaceP, SpaceQ, SpaceLw, SpaceLq, ImageP, ImageQ. -/
import Derived.Test.YtcnflkjkgomnoaaGreatB03
import Derived.Test.YtcnflkjkgomnoaaGreatB04
import Derived.Test.YtcnflkjkgomnoaaGreatB07
import Derived.Test.YtcnflkjkgomnoaaGreatB14
import Derived.Test.YtcnflkjkgomnoaaGreatB15
set_option maxRecDepth 100000
set_option maxHeartbeats 8000000
namespace Go.Proofs.YtcnflkjkgomnoaaGreat.Spa
open Go.RowKit Go.Proofs.YtcnflkjkgomnoaaGreat
open Go.Proofs.YtcnflkjkgomnoaaGreat.Lea (LS Ls findX putL renX)
open Go.Proofs.YtcnflkjkgomnoaaGreat.Edi (Ed)
structure Sp where
  tx : Int
  nb : Int
  ng : Int
  now : Int
  ns : NS
  ls : LS
def zeroS : Sp := ⟨0, 0, 0, 0, [], []⟩
def rootN : Nd := ⟨rootP, true, -1, [], -1⟩
def newS : Sp := ⟨0, 1, 1, 0, [rootN], []⟩
def zeroN : Nd := ⟨⟨#[]⟩, false, 0, [], 0⟩
def blksL (xs : NS) : List Blk := xs.flatMap (·.bs)
structure RtS (s : Sp) : Prop where
  tx : 0 ≤ s.tx ∧ s.tx ≤ 300
  nb : 1 ≤ s.nb ∧ s.nb ≤ 9007199254740991
  ng : 1 ≤ s.ng ∧ s.ng ≤ 9007199254740991
  now : 0 ≤ s.now ∧ s.now ≤ 9007199254740981
  tree : Right s.ns
  over : overL s.ns = []
  ids : (blksL s.ns).Pairwise (fun a b => a.id ≠ b.id)
  lo : ∀ b ∈ blksL s.ns, b.id < s.nb ∧ b.gen < s.ng
  ls : Lea.Rt s.ls
  wr : ∀ x ∈ s.ns, x.wr ≠ -1 → (findX s.ls x.wr).2 = true
structure An where
  err : Int
  b : Blk
  names : List ByteArray
  nd : Nd
  n : Int
structure Is (xs : NS) (p : ByteArray) (i : Nat) (x : Nd) : Prop where
  path : pathB p = true
  at_ : at? xs p = some i
  nd : xs[i]? = some x
inductive NodeE (xs : NS) (p : ByteArray) : Int → Prop
  | arg : pathB p = false → NodeE xs p 1
  | none : pathB p = true → at? xs p = none → NodeE xs p 5
  | ok (i : Nat) (x : Nd) : Is xs p i x → NodeE xs p 0
inductive FileE (xs : NS) (p : ByteArray) : Int → Prop
  | node (E : Int) : NodeE xs p E → E ≠ 0 → FileE xs p E
  | dir (i : Nat) (x : Nd) : Is xs p i x → x.dir = true → FileE xs p 7
  | ok (i : Nat) (x : Nd) : Is xs p i x → x.dir = false → FileE xs p 0
inductive WritE (xs : NS) (p : ByteArray) (c : Int) : Int → Prop
  | file (E : Int) : FileE xs p E → E ≠ 0 → WritE xs p c E
  | lease (i : Nat) (x : Nd) : Is xs p i x → x.dir = false → x.wr ≠ c → WritE xs p c 9
  | ok (i : Nat) (x : Nd) : Is xs p i x → x.dir = false → x.wr = c → WritE xs p c 0
def newN (e : Ed) : Nd := ⟨e.p, decide (e.k = 1), -1, [], if e.k = 2 then e.c else -1⟩
structure LenOk (bs : List Blk) (ls : List Int) : Prop where
  len : ls.length = bs.length
  each : ∀ l ∈ ls, l ≤ 64
inductive MadeE (s : Sp) (e : Ed) : Int → Prop
  | add (E : Int) : AddE s.ns (newN e) E → E ≠ 0 → MadeE s e E
  | full : AddE s.ns (newN e) 0 → roomI s.ns (parD e.p) < 1 → MadeE s e 8
  | ok : AddE s.ns (newN e) 0 → 1 ≤ roomI s.ns (parD e.p) → MadeE s e 0
inductive RenE (s : Sp) (e : Ed) : Int → Prop
  | mov (E : Int) : MovE s.ns e.p e.t E → E ≠ 0 → RenE s e E
  | full : MovE s.ns e.p e.t 0 → overL (movL s.ns e.p e.t) ≠ [] → RenE s e 8
  | ok : MovE s.ns e.p e.t 0 → overL (movL s.ns e.p e.t) = [] → RenE s e 0
structure Wr (s : Sp) (e : Ed) (i : Nat) (x : Nd) : Prop where
  is : Is s.ns e.p i x
  dir : x.dir = false
  wr : x.wr = e.c
inductive AddBE (s : Sp) (e : Ed) : Int → Prop
  | writ (E : Int) : WritE s.ns e.p e.c E → E ≠ 0 → AddBE s e E
  | arg (i : Nat) (x : Nd) : Wr s e i x → ¬ LenOk x.bs e.ls → AddBE s e 1
  | long (i : Nat) (x : Nd) : Wr s e i x → LenOk x.bs e.ls → (x.bs.length = 8 ∨ s.nb = 9007199254740991 ∨ s.ng = 9007199254740991) → AddBE s e 4
  | ok (i : Nat) (x : Nd) : Wr s e i x → LenOk x.bs e.ls → x.bs.length ≠ 8 → s.nb ≠ 9007199254740991 → s.ng ≠ 9007199254740991 → AddBE s e 0
inductive CompE (s : Sp) (e : Ed) : Int → Prop
  | writ (E : Int) : WritE s.ns e.p e.c E → E ≠ 0 → CompE s e E
  | arg (i : Nat) (x : Nd) : Wr s e i x → ¬ LenOk x.bs e.ls → CompE s e 1
  | ok (i : Nat) (x : Nd) : Wr s e i x → LenOk x.bs e.ls → CompE s e 0
inductive BumpE (s : Sp) (e : Ed) : Int → Prop
  | writ (E : Int) : WritE s.ns e.p e.c E → E ≠ 0 → BumpE s e E
  | arg (i : Nat) (x : Nd) : Wr s e i x → (x.bs.length : Int) ≤ e.n → BumpE s e 1
  | long (i : Nat) (x : Nd) : Wr s e i x → e.n < (x.bs.length : Int) → s.ng = 9007199254740991 → BumpE s e 4
  | ok (i : Nat) (x : Nd) : Wr s e i x → e.n < (x.bs.length : Int) → s.ng ≠ 9007199254740991 → BumpE s e 0
inductive ReopE (s : Sp) (e : Ed) : Int → Prop
  | file (E : Int) : FileE s.ns e.p E → E ≠ 0 → ReopE s e E
  | lease (i : Nat) (x : Nd) : Is s.ns e.p i x → x.dir = false → x.wr ≠ -1 → ReopE s e 9
  | ok (i : Nat) (x : Nd) : Is s.ns e.p i x → x.dir = false → x.wr = -1 → ReopE s e 0
inductive SetQE (s : Sp) (e : Ed) : Int → Prop
  | node (E : Int) : NodeE s.ns e.p E → E ≠ 0 → SetQE s e E
  | dir (i : Nat) (x : Nd) : Is s.ns e.p i x → x.dir = false → SetQE s e 7
  | full (i : Nat) (x : Nd) : Is s.ns e.p i x → x.dir = true → e.n ≠ -1 → e.n < (cntL s.ns e.p : Int) → SetQE s e 8
  | ok (i : Nat) (x : Nd) : Is s.ns e.p i x → x.dir = true → (e.n ≠ -1 → (cntL s.ns e.p : Int) ≤ e.n) → SetQE s e 0
inductive RnwE (s : Sp) (e : Ed) : Int → Prop
  | arg : ¬ (s.now ≤ e.n ∧ e.n ≤ 9007199254740981) → RnwE s e 1
  | ok : s.now ≤ e.n → e.n ≤ 9007199254740981 → RnwE s e 0
inductive DoE (s : Sp) (e : Ed) : Int → Prop
  | made (E : Int) : (e.k = 1 ∨ e.k = 2) → MadeE s e E → DoE s e E
  | rem (E : Int) : e.k = 3 → RemE s.ns e.p E → DoE s e E
  | ren (E : Int) : e.k = 4 → RenE s e E → DoE s e E
  | addb (E : Int) : e.k = 5 → AddBE s e E → DoE s e E
  | comp (E : Int) : e.k = 6 → CompE s e E → DoE s e E
  | setq (E : Int) : e.k = 7 → SetQE s e E → DoE s e E
  | rnw (E : Int) : e.k = 8 → RnwE s e E → DoE s e E
  | bump (E : Int) : e.k = 9 → BumpE s e E → DoE s e E
  | reop (E : Int) : e.k = 10 → ReopE s e E → DoE s e E
inductive AppE (s : Sp) (e : Ed) : Int → Prop
  | arg : ¬ (RtS s ∧ Edi.Rt e) → AppE s e 1
  | long : RtS s → Edi.Rt e → s.tx = 300 → AppE s e 4
  | does (E : Int) : RtS s → Edi.Rt e → s.tx ≠ 300 → DoE s e E → AppE s e E
theorem Is.one {xs : NS} {p : ByteArray} {i j : Nat} {x y : Nd} (h : Is xs p i x) (k : Is xs p j y) : i = j ∧ x = y := by
  have e : some i = some j := h.at_.symm.trans k.at_
  cases e
  have := h.nd.symm.trans k.nd
  cases this
  exact ⟨rfl, rfl⟩
end Go.Proofs.YtcnflkjkgomnoaaGreat.Spa
namespace Go.Proofs.YtcnflkjkgomnoaaGreat.Img
open Go.RowKit Go.Proofs.YtcnflkjkgomnoaaGreat Go.Proofs.YtcnflkjkgomnoaaGreat.Smm
open Go.Proofs.YtcnflkjkgomnoaaGreat.Spa (Sp RtS zeroS newS rootN)
open Go.Proofs.YtcnflkjkgomnoaaGreat.Lea (LS Ls)
open Go.Proofs.YtcnflkjkgomnoaaGreat.Edi (numsB numsB_len numsB_snoc takeN takeN_back takeN_sound takeN_size takeT_back2)
open Go.Proofs.YtcnflkjkgomnoaaGreat.Wir (textB textB_data takeT takeT_sound takeT_back text_prefix app_list app_size app_assoc size_list mk_size numB_len numB_prefix)
open Go.WideShapes (bytes_inj)
abbrev I64 (z : Int) : Prop := -9223372036854775808 ≤ z ∧ z ≤ 9223372036854775807
def mk (l : List UInt8) : ByteArray := ⟨l.toArray⟩
theorem mk_li (l : List UInt8) : (mk l).data.toList = l := by simp [mk]
theorem mk_sz2 (l : List UInt8) : (mk l).size = l.length := by rw [← size_list, mk_li]
theorem mk_app (a b : List UInt8) : mk (a ++ b) = mk a ++ mk b := bytes_inj (by rw [app_list, mk_li, mk_li, mk_li])
def headZ (s : Sp) : List Int := [s.tx, s.nb, s.ng, s.now, (s.ns.length : Int), (s.ls.length : Int)]
def headL (zs : List Int) : ByteArray := mk (84 :: numsB zs)
def blkZ (bs : List Blk) : List Int := bs.flatMap fun b => [b.id, b.gen, b.len]
def kindZ (d : Bool) : Int := if d then 1 else 0
def nodeZ (x : Nd) : List Int := [kindZ x.dir, x.quota, x.wr, (x.bs.length : Int)] ++ blkZ x.bs
def nodeP (x : Nd) : ByteArray := textB x.path ++ mk (numsB (nodeZ x))
def leaseP (l : Ls) : ByteArray := mk (numsB [l.c, l.u])
def partsS (s : Sp) : List ByteArray := headL (headZ s) :: (s.ns.map nodeP ++ s.ls.map leaseP)
def joinL (ps : List ByteArray) : List UInt8 := ps.flatMap fun p => (sealB p).data.toList
def joinP (ps : List ByteArray) : ByteArray := mk (joinL ps)
def encI (s : Sp) : ByteArray := joinP (partsS s)
theorem joinL_app (a b : List ByteArray) : joinL (a ++ b) = joinL a ++ joinL b := by simp [joinL]
theorem joinL_cons (a : ByteArray) (b : List ByteArray) : joinL (a :: b) = (sealB a).data.toList ++ joinL b := by simp [joinL]
theorem joinP_cons (a : ByteArray) (b : List ByteArray) : joinP (a :: b) = sealB a ++ joinP b := by
  unfold joinP; refine bytes_inj ?_
  rw [app_list, mk_li, mk_li, joinL_cons]
theorem numsB_app (a b : List Int) : numsB (a ++ b) = numsB a ++ numsB b := by simp [numsB]
theorem numsB_cons (a : Int) (b : List Int) : numsB (a :: b) = Wir.numB a ++ numsB b := by simp [numsB]
structure FitX (x : Nd) : Prop where
  path : x.path.size ≤ 4000
  few : x.bs.length ≤ 8
  q : I64 x.quota
  wr : I64 x.wr
  bs : ∀ b ∈ x.bs, I64 b.id ∧ I64 b.gen ∧ I64 b.len
structure FitL (l : Ls) : Prop where
  c : I64 l.c
  u : I64 l.u
structure FitS (s : Sp) : Prop where
  tx : I64 s.tx
  nb : I64 s.nb
  ng : I64 s.ng
  now : I64 s.now
  ns : ∀ x ∈ s.ns, FitX x
  ls : ∀ l ∈ s.ls, FitL l
  many : s.ns.length ≤ 9223372036854775807 ∧ s.ls.length ≤ 9223372036854775807
theorem blkZ_len (bs : List Blk) : (blkZ bs).length = 3 * bs.length := by
  induction bs with
  | nil => rfl
  | cons b r ih => simp [blkZ] at ih ⊢; omega
theorem blkZ_cons (b : Blk) (bs : List Blk) : blkZ (b :: bs) = b.id :: b.gen :: b.len :: blkZ bs := by simp [blkZ]
theorem blkZ_snoc (bs : List Blk) (b : Blk) : blkZ (bs ++ [b]) = blkZ bs ++ [b.id, b.gen, b.len] := by simp [blkZ]
theorem blkZ_inj : ∀ {a b : List Blk}, blkZ a = blkZ b → a = b
  | [], [], _ => rfl
  | [], b :: r, h => by simp [blkZ] at h
  | a :: r, [], h => by simp [blkZ] at h
  | ⟨a1, a2, a3⟩ :: r, ⟨b1, b2, b3⟩ :: r', h => by
    rw [blkZ_cons, blkZ_cons] at h
    simp only [List.cons.injEq] at h
    obtain ⟨rfl, rfl, rfl, h⟩ := h
    rw [blkZ_inj h]
theorem blkZ_i64 {bs : List Blk} (h : ∀ b ∈ bs, I64 b.id ∧ I64 b.gen ∧ I64 b.len) : ∀ z ∈ blkZ bs, I64 z := by
  intro z hz
  obtain ⟨b, hb, hz⟩ := List.mem_flatMap.1 hz
  have := h b hb
  simp at hz
  rcases hz with rfl | rfl | rfl
  · exact this.1
  · exact this.2.1
  · exact this.2.2
theorem kindZ_i64 (d : Bool) : I64 (kindZ d) := by unfold kindZ I64; cases d <;> simp
theorem kindZ_inj {a b : Bool} (h : kindZ a = kindZ b) : a = b := by unfold kindZ at h; cases a <;> cases b <;> simp at h ⊢
theorem FitX.zs {x : Nd} (h : FitX x) : ∀ z ∈ nodeZ x, I64 z := by
  intro z hz
  unfold nodeZ at hz; rcases List.mem_append.1 hz with hz | hz
  · have h8 := h.few
    simp at hz
    rcases hz with rfl | rfl | rfl | rfl
    · exact kindZ_i64 _
    · exact h.q
    · exact h.wr
    · unfold I64; omega
  · exact blkZ_i64 h.bs z hz
theorem FitS.hz {s : Sp} (h : FitS s) : ∀ z ∈ headZ s, I64 z := by
  intro z hz
  have := h.many
  simp [headZ] at hz
  rcases hz with rfl | rfl | rfl | rfl | rfl | rfl
  · exact h.tx
  · exact h.nb
  · exact h.ng
  · exact h.now
  · unfold I64; omega
  · unfold I64; omega
theorem FitL.zs {l : Ls} (h : FitL l) : ∀ z ∈ [l.c, l.u], I64 z := by
  intro z hz
  simp at hz
  rcases hz with rfl | rfl
  · exact h.c
  · exact h.u
theorem numsB_inj : ∀ {a b : List Int} {r r' : List UInt8}, a.length = b.length → numsB a ++ r = numsB b ++ r' → a = b ∧ r = r'
  | [], [], _, _, _, h => ⟨rfl, by simpa [numsB] using h⟩
  | [], _ :: _, _, _, h, _ => by simp at h
  | _ :: _, [], _, _, h, _ => by simp at h
  | x :: a, y :: b, r, r', hl, h => by
    rw [numsB_cons, numsB_cons, List.append_assoc, List.append_assoc] at h
    obtain ⟨h1, h2⟩ := numB_prefix h
    obtain ⟨h3, h4⟩ := numsB_inj (by simpa using hl) h2
    exact ⟨by rw [h1, h3], h4⟩
theorem headL_inj {a b : List Int} {r r' : List UInt8} (hl : a.length = b.length) (h : (headL a).data.toList ++ r = (headL b).data.toList ++ r') : a = b ∧ r = r' := by
  unfold headL at h; rw [mk_li, mk_li, List.cons_append, List.cons_append] at h
  exact numsB_inj hl (List.cons.inj h).2
theorem leaseP_inj {a b : Ls} {r r' : List UInt8} (h : (leaseP a).data.toList ++ r = (leaseP b).data.toList ++ r') : a = b ∧ r = r' := by
  unfold leaseP at h; rw [mk_li, mk_li] at h
  obtain ⟨h1, h2⟩ := numsB_inj (by simp) h
  simp only [List.cons.injEq, and_true] at h1
  exact ⟨by cases a; cases b; simp_all, h2⟩
theorem nodeP_list (x : Nd) : (nodeP x).data.toList = (textB x.path).data.toList ++ numsB (nodeZ x) := by unfold nodeP; rw [app_list, mk_li]
theorem nodeP_inj {a b : Nd} {r r' : List UInt8} (h : (nodeP a).data.toList ++ r = (nodeP b).data.toList ++ r') : a = b ∧ r = r' := by
  rw [nodeP_list, nodeP_list, List.append_assoc, List.append_assoc] at h
  obtain ⟨h1, h2⟩ := text_prefix h
  unfold nodeZ at h2; rw [numsB_app, numsB_app, List.append_assoc, List.append_assoc] at h2
  obtain ⟨h3, h4⟩ := numsB_inj (by simp) h2
  simp only [List.cons.injEq, and_true] at h3
  obtain ⟨k1, k2, k3, k4⟩ := h3
  obtain ⟨h5, h6⟩ := numsB_inj (by rw [blkZ_len, blkZ_len]; omega) h4
  have k5 := blkZ_inj h5
  have k6 := kindZ_inj k1
  refine ⟨?_, h6⟩
  obtain ⟨a1, a2, a3, a4, a5⟩ := a
  obtain ⟨b1, b2, b3, b4, b5⟩ := b
  simp only at h1 k2 k3 k5 k6
  subst h1 k2 k3 k5 k6; rfl
theorem same_of_nil {α : Type} {f : α → ByteArray} (hf : ∀ {a b : α} {r r' : List UInt8}, (f a).data.toList ++ r = (f b).data.toList ++ r' → a = b ∧ r = r') {a b : α} (h : f a = f b) : a = b :=
  (hf (r := []) (r' := []) (by rw [h])).1
theorem map_inj {α : Type} {f : α → ByteArray} (hf : ∀ {a b : α}, f a = f b → a = b) : ∀ {xs ys : List α}, xs.map f = ys.map f → xs = ys
  | [], [], _ => rfl
  | [], _ :: _, h => by simp at h
  | _ :: _, [], h => by simp at h
  | x :: xs, y :: ys, h => by
    simp only [List.map_cons, List.cons.injEq] at h
    rw [hf h.1, map_inj hf h.2]
theorem partsS_inj {s t : Sp} (h : partsS s = partsS t) : s = t := by
  unfold partsS at h; simp only [List.cons.injEq] at h
  obtain ⟨h1, h2⟩ := h
  have h3 := (headL_inj (a := headZ s) (b := headZ t) (r := []) (r' := []) rfl (by rw [h1])).1
  simp only [headZ, List.cons.injEq, and_true] at h3
  obtain ⟨k1, k2, k3, k4, k5, k6⟩ := h3
  have hl : (s.ns.map nodeP).length = (t.ns.map nodeP).length := by rw [List.length_map, List.length_map]; omega
  obtain ⟨h4, h5⟩ := List.append_inj h2 hl
  have h6 := map_inj (fun {a b} h => same_of_nil (f := nodeP) nodeP_inj h) h4
  have h7 := map_inj (fun {a b} h => same_of_nil (f := leaseP) leaseP_inj h) h5
  obtain ⟨s1, s2, s3, s4, s5, s6⟩ := s
  obtain ⟨t1, t2, t3, t4, t5, t6⟩ := t
  simp only at k1 k2 k3 k4 h6 h7
  subst k1 k2 k3 k4 h6 h7; rfl
theorem sealB_pos (s : ByteArray) : 5 ≤ (sealB s).size := by
  have := Wir.numB_pos (s.size : Int)
  rw [sealB_size]; omega
abbrev Small (ps : List ByteArray) : Prop := ∀ p ∈ ps, p.size ≤ 4000
structure BadAt (r : ByteArray) (e : Nat) : Prop where
  pos : r.size ≠ 0
  ex : ∃ T R, openT r = (T, R, e)
  ne : e ≠ 0
theorem BadAt.empty {r : ByteArray} {e : Nat} (h : BadAt r e) : openT r = (⟨#[]⟩, ⟨#[]⟩, e) := by
  obtain ⟨T, R, h1⟩ := h.ex
  rcases openT_cases r with ⟨_, h2⟩ | ⟨t, r', hT, h2⟩
  · rw [h1] at h2; simp only [Prod.mk.injEq] at h2; rw [h1, h2.1, h2.2.1]
  · rcases h2 with ⟨_, h2⟩ | ⟨_, _, h2⟩ | ⟨_, _, h2⟩
    · rw [h1] at h2; simp only [Prod.mk.injEq] at h2; rw [h1, h2.1, h2.2.1]
    · rw [h1] at h2; simp only [Prod.mk.injEq] at h2; exact absurd h2.2.2 h.ne
    · rw [h1] at h2; simp only [Prod.mk.injEq] at h2; rw [h1, h2.1, h2.2.1]
inductive DecI (b : ByteArray) : Sp → Int → Prop
  | ok (s : Sp) : RtS s → Small (partsS s) → b = encI s → DecI b s 0
  | form (ps : List ByteArray) : Small ps → b = joinP ps → (∀ s, RtS s → ps ≠ partsS s) → DecI b zeroS 2
  | bad (ps : List ByteArray) (r : ByteArray) (e : Nat) : Small ps → BadAt r e → b = joinP ps ++ r → DecI b zeroS e
end Go.Proofs.YtcnflkjkgomnoaaGreat.Img
namespace Go.Proofs.YtcnflkjkgomnoaaGreat.Spa
open Go.RowKit Go.Proofs.YtcnflkjkgomnoaaGreat
open Go.Proofs.YtcnflkjkgomnoaaGreat.Lea (LS Ls findX putL renX)
open Go.Proofs.YtcnflkjkgomnoaaGreat.Edi (Ed)
theorem over_iff {xs : NS} : overL xs = [] ↔ ∀ x ∈ xs, 0 ≤ x.quota → (cntL xs x.path : Int) ≤ x.quota := by
  unfold overL; rw [List.map_eq_nil_iff, List.filter_eq_nil_iff]
  refine ⟨fun h x hx h0 => ?_, fun h x hx e => ?_⟩
  · have := h x hx
    unfold overB at this; simp [h0] at this
    omega
  · unfold overB at e
    simp only [Bool.and_eq_true, decide_eq_true_eq] at e
    have := h x hx e.1
    omega
theorem blks_app (xs ys : NS) : blksL (xs ++ ys) = blksL xs ++ blksL ys := List.flatMap_append
theorem blks_one (x : Nd) : blksL [x] = x.bs := by simp [blksL]
theorem pair_perm {l m : List Blk} (h : l.Perm m) (hl : l.Pairwise (fun a b => a.id ≠ b.id)) : m.Pairwise (fun a b => a.id ≠ b.id) :=
  (h.pairwise_iff (fun {_ _} e => e.symm)).1 hl
theorem sub_blks {xs ys : NS} (h : xs.Sublist ys) : (blksL xs).Sublist (blksL ys) := by
  induction h with
  | slnil => exact List.Sublist.refl _
  | cons a h ih =>
    show (blksL _).Sublist (a.bs ++ blksL _)
    exact ih.trans (List.sublist_append_right _ _)
  | cons_cons a h ih =>
    show (a.bs ++ blksL _).Sublist (a.bs ++ blksL _)
    exact (List.Sublist.refl _).append ih
section
variable {xs : NS} {i : Nat} {x y : Nd}
end
theorem dir_fits {x : Nd} (hd : x.dir = true) (h1 : pathB x.path = true) (h2 : x.bs = []) (h3 : x.wr = -1) (h4 : -1 ≤ x.quota) (h5 : x.quota ≤ 9007199254740991) : fitsB x = true := by
  unfold fitsB; rw [hd]
  simp only [Bool.and_eq_true, if_true]
  unfold dirB; simp only [Bool.and_eq_true, decide_eq_true_eq]
  exact ⟨h1, ⟨by rw [h2]; rfl, h3⟩, h4, h5⟩
theorem new_right : RtS newS := by
  have hr : pathB rootP = true := by unfold pathB; rw [root_split.2]; rfl
  have hR : Right [rootN] := by
    refine right_of (List.pairwise_singleton _ _) (by decide) ⟨rootN, by simp, rfl⟩ (fun x hx => ?_) (fun x hx hp => ?_)
    · rw [List.mem_singleton.1 hx]
      exact dir_fits rfl hr rfl rfl (by decide) (by decide)
    · rw [List.mem_singleton.1 hx] at hp; exact absurd rfl hp
  refine ⟨by decide, by decide, by decide, by decide, hR, over_iff.2 fun x hx h0 => ?_, List.Pairwise.nil, fun b hb => (by cases hb), Lea.Rt.nil, fun x hx hw => ?_⟩
  · rw [List.mem_singleton.1 hx] at h0
    exact absurd h0 (by decide)
  · rw [List.mem_singleton.1 hx] at hw; exact absurd rfl hw
open Go.Proofs.YtcnflkjkgomnoaaGreat.Lea (LS Ls findX putL renX untilX)
structure Mk (s : Sp) (e : Ed) : Prop where
  rt : RtS s
  ed : Edi.Rt e
  tx : s.tx ≠ 300
  does : DoE s e 0
theorem mk_of {s : Sp} {e : Ed} (h : AppE s e 0) : Mk s e := by
  cases h with
  | does _ h he ht hd => exact ⟨h, he, ht, hd⟩
theorem path_list {p : ByteArray} (h : pathB p = true) : Good (splitN p) ∧ (p = rootP ∧ splitN p = [] ∨ p ≠ rootP ∧ splitN p ≠ [] ∧ p.data.toList = pathL (splitN p)) := by
  have h0 : splitE p = 0 := by simpa [pathB] using h
  obtain ⟨hg, hp⟩ := split_ok h0
  refine ⟨hg, ?_⟩
  cases hs : splitN p with
  | nil => rw [hs] at hp; exact .inl ⟨hp, rfl⟩
  | cons n ns =>
    rw [hs] at hp hg
    have e : p.data.toList = pathL (n :: ns) := by
      rw [hp, pathT_ne (by simp), mk_list]
    refine .inr ⟨fun e2 => ?_, by simp, e⟩
    rw [e2] at e
    exact pathL_two (hg.names n (by simp)) e.symm
theorem path_small {p : ByteArray} (h : pathB p = true) : p.size ≤ 120 := by
  obtain ⟨g, c⟩ := path_list h
  rcases c with ⟨h1, _⟩ | ⟨_, _, h3⟩
  · rw [h1]; decide
  · have := g.short
    rw [← h3, list_sz] at this
    exact this
end Go.Proofs.YtcnflkjkgomnoaaGreat.Spa
namespace Go.Proofs.YtcnflkjkgomnoaaGreat.Img
open Go.RowKit Go.Proofs.YtcnflkjkgomnoaaGreat Go.Proofs.YtcnflkjkgomnoaaGreat.Smm
open Go.Proofs.YtcnflkjkgomnoaaGreat.Spa (Sp RtS zeroS newS rootN path_list path_small)
open Go.Proofs.YtcnflkjkgomnoaaGreat.Lea (LS Ls)
open Go.Proofs.YtcnflkjkgomnoaaGreat.Edi (numsB numsB_len)
open Go.Proofs.YtcnflkjkgomnoaaGreat.Wir (textB textB_data app_list app_size size_list mk_size numB_len numB_prefix)
open Go.WideShapes (bytes_inj)
theorem fit_of {x : Nd} (h : fitsB x = true) : FitX x ∧ x.path.size ≤ 120 ∧ x.path.data.toList[0]? = some 47 := by
  have hp : pathB x.path = true := by
    unfold fitsB at h; exact (Bool.and_eq_true _ _ ▸ h : _ ∧ _).1
  have hs := path_small hp
  have h0 : x.path.data.toList[0]? = some 47 := by
    obtain ⟨_, h1⟩ := path_list hp
    rcases h1 with ⟨h1, _⟩ | ⟨_, h1, h2⟩
    · rw [h1]; rfl
    · rw [h2]
      cases hn : splitN x.path with
      | nil => exact absurd hn h1
      | cons a r => rw [pathL_cons]; rfl
  refine ⟨?_, hs, h0⟩
  have h8 := fits_few h
  unfold fitsB at h; have h2 := (Bool.and_eq_true _ _ ▸ h : _ ∧ _).2
  cases hd : x.dir with
  | true =>
    rw [hd] at h2
    simp only [if_true, dirB, Bool.and_eq_true, decide_eq_true_eq] at h2
    obtain ⟨⟨k1, k2⟩, k3, k4⟩ := h2
    exact ⟨by omega, h8, by unfold I64; omega, by unfold I64; omega, fun b hb => by rw [List.length_eq_zero_iff.1 k1] at hb; cases hb⟩
  | false =>
    rw [hd] at h2
    simp only [Bool.false_eq_true, if_false, fileB, headB, Bool.and_eq_true, decide_eq_true_eq] at h2
    obtain ⟨⟨⟨⟨k1, k2⟩, k3, k4⟩, k5⟩, k6⟩ := h2
    refine ⟨by omega, h8, by unfold I64; omega, by unfold I64; omega, fun b hb => ?_⟩
    have := List.all_eq_true.1 k6 b hb
    simp only [blkB, numB, Bool.and_eq_true, decide_eq_true_eq] at this
    unfold I64; omega
theorem lease_fit {s : Sp} (h : RtS s) : ∀ l ∈ s.ls, FitL l := fun l hl => by
  have := h.ls.ok l hl
  exact ⟨by unfold I64; omega, by unfold I64; omega⟩
theorem lease_few {s : Sp} (h : RtS s) : s.ls.length ≤ 4 := by
  have h1 := h.ls.ok
  have h2 := h.ls.up
  have key : ∀ (xs : LS) (m : Int), (∀ x ∈ xs, m ≤ x.c ∧ x.c < 4) → xs.Pairwise (fun x y => x.c < y.c) → m ≤ 4 → (xs.length : Int) ≤ 4 - m := by
    intro xs
    induction xs with
    | nil => intro m _ _ hm; simp; omega
    | cons x r ih =>
      intro m hm hp _
      have hx := hm x (List.mem_cons_self ..)
      obtain ⟨p1, p2⟩ := List.pairwise_cons.1 hp
      have := ih (x.c + 1) (fun y hy => ⟨by have := p1 y hy; omega, (hm y (List.mem_cons_of_mem _ hy)).2⟩) p2 (by omega)
      simp only [List.length_cons]
      omega
  have := key s.ls 0 (fun x hx => ⟨(h1 x hx).1, (h1 x hx).2.1⟩) h2 (by omega)
  omega
theorem rts_fit {s : Sp} (h : RtS s) : FitS s := by
  have h1 := h.tx
  have h2 := h.nb
  have h3 := h.ng
  have h4 := h.now
  have h5 := h.tree.few
  have h6 := lease_few h
  exact ⟨by unfold I64; omega, by unfold I64; omega, by unfold I64; omega, by unfold I64; omega, fun x hx => (fit_of (h.tree.fit x hx)).1, lease_fit h, by omega, by omega⟩
theorem headL_size {zs : List Int} (h : ∀ z ∈ zs, I64 z) (h6 : zs.length = 6) : (headL zs).size ≤ 61 := by
  have := numsB_len zs h
  unfold headL; rw [mk_sz2, List.length_cons]; omega
theorem leaseP_size {l : Ls} (h : FitL l) : (leaseP l).size ≤ 20 := by
  have := numsB_len [l.c, l.u] h.zs
  unfold leaseP; rw [mk_sz2]; simpa using this
theorem nodeZ_len (x : Nd) : (nodeZ x).length = 4 + 3 * x.bs.length := by unfold nodeZ; rw [List.length_append, blkZ_len]; rfl
theorem nodeP_size {x : Nd} (h : FitX x) (hp : x.path.size ≤ 120) : (nodeP x).size ≤ 410 := by
  have h1 := numsB_len (nodeZ x) h.zs
  have h2 := numB_len (n := (x.path.size : Int)) (by omega) (by omega)
  rw [nodeZ_len] at h1
  have h3 := h.few
  unfold nodeP textB; rw [app_size, app_size, mk_sz2, mk_size]; omega
theorem parts_small {s : Sp} (h : RtS s) : Small (partsS s) := by
  intro p hp
  have hf := rts_fit h
  unfold partsS at hp; rcases List.mem_cons.1 hp with rfl | hp
  · have := headL_size hf.hz rfl; omega
  · rcases List.mem_append.1 hp with hp | hp
    · obtain ⟨x, hx, rfl⟩ := List.mem_map.1 hp
      obtain ⟨k1, k2, _⟩ := fit_of (h.tree.fit x hx)
      have := nodeP_size k1 k2; omega
    · obtain ⟨x, hx, rfl⟩ := List.mem_map.1 hp
      have := leaseP_size (hf.ls x hx); omega
theorem partsS_len (s : Sp) : (partsS s).length = 1 + s.ns.length + s.ls.length := by unfold partsS; simp; omega
theorem sealB_le {p : ByteArray} (h : p.size ≤ 4000) : (sealB p).size ≤ p.size + 14 := by
  have h1 := numB_len (n := (p.size : Int)) (by omega) (by omega)
  rw [sealB_size]; omega
theorem joinL_len : ∀ (ps : List ByteArray) (m : Nat), (∀ p ∈ ps, p.size ≤ m) → m ≤ 4000 → (joinL ps).length ≤ (m + 14) * ps.length
  | [], _, _, _ => by simp [joinL]
  | p :: ps, m, h, hm => by
    have h1 := joinL_len ps m (fun x hx => h x (List.mem_cons_of_mem _ hx)) hm
    have h2 := h p (List.mem_cons_self ..)
    have h3 := sealB_le (p := p) (by omega)
    rw [joinL_cons, List.length_append, size_list, List.length_cons, Nat.mul_add, Nat.mul_one]
    omega
theorem joinL_small {ps : List ByteArray} {k : Nat} (h : Small ps) (hk : ps.length ≤ k) : (joinL ps).length ≤ 4014 * k := by
  have h1 := joinL_len ps 4000 h (Nat.le_refl _)
  have h2 : (4000 + 14) * ps.length ≤ 4014 * k := Nat.mul_le_mul (Nat.le_refl _) hk
  omega
theorem enc_size {s : Sp} (h : RtS s) : (encI s).size ≤ 260910 := by
  have h1 := joinL_small (k := 65) (parts_small h) (by rw [partsS_len]; have := h.tree.few; have := lease_few h; omega)
  unfold encI joinP; rw [mk_sz2]; omega
theorem dec_back {s : Sp} (h : RtS s) : DecI (encI s) s 0 := .ok s h (parts_small h) rfl
open Go.Proofs.YtcnflkjkgomnoaaGreat.Spa (Sp RtS zeroS newS rootN)
open Go.Proofs.YtcnflkjkgomnoaaGreat.Edi (numsB numsB_len takeN takeN_back takeN_sound takeN_size takeT_back2 takeT_less)
open Go.Proofs.YtcnflkjkgomnoaaGreat.Wir (textB takeT takeT_sound app_list app_size size_list)
abbrev St := ByteArray × Bool
def numS (s : St) : Int × St := match takeN s.1 with
  | none => (0, (⟨#[]⟩, false))
  | some (n, r) => (n, (r, s.2))
def txtS (s : St) : ByteArray × St := match takeT s.1 with
  | none => (⟨#[]⟩, (⟨#[]⟩, false))
  | some (t, r) => (t, (r, s.2))
theorem numS_no {s : St} (h : takeN s.1 = none) : numS s = (0, (⟨#[]⟩, false)) := by unfold numS; rw [h]
theorem numS_yes {s : St} {n : Int} {r : ByteArray} (h : takeN s.1 = some (n, r)) : numS s = (n, (r, s.2)) := by unfold numS; rw [h]
theorem txtS_no {s : St} (h : takeT s.1 = none) : txtS s = (⟨#[]⟩, (⟨#[]⟩, false)) := by unfold txtS; rw [h]
theorem txtS_yes {s : St} {t r : ByteArray} (h : takeT s.1 = some (t, r)) : txtS s = (t, (r, s.2)) := by unfold txtS; rw [h]
theorem txtS_small (s : St) : (txtS s).1.size ≤ 4000 := by
  cases h : takeT s.1 with
  | none => rw [txtS_no h]; exact Nat.zero_le _
  | some p => obtain ⟨n, r⟩ := p; rw [txtS_yes h]; exact (takeT_sound h).2
theorem numS_ok {s : St} {n : Int} {r : ByteArray} (h : numS s = (n, (r, true))) : s.2 = true ∧ s.1.data.toList = Wir.numB n ++ r.data.toList ∧ I64 n := by
  cases hT : takeN s.1 with
  | none => rw [numS_no hT] at h; simp at h
  | some p =>
    obtain ⟨m, q⟩ := p
    rw [numS_yes hT] at h
    simp only [Prod.mk.injEq] at h
    obtain ⟨rfl, rfl, h2⟩ := h
    exact ⟨h2, takeN_sound hT⟩
theorem numS_back {b r : ByteArray} {n : Int} (ok : Bool) (hn : I64 n) (h : b.data.toList = Wir.numB n ++ r.data.toList) : numS (b, ok) = (n, (r, ok)) :=
  numS_yes (s := (b, ok)) (takeN_back n r hn.1 hn.2 h)
theorem txtS_ok {s : St} {t r : ByteArray} (h : txtS s = (t, (r, true))) : s.2 = true ∧ s.1.data.toList = (textB t).data.toList ++ r.data.toList ∧ t.size ≤ 4000 := by
  cases hT : takeT s.1 with
  | none => rw [txtS_no hT] at h; simp at h
  | some p =>
    obtain ⟨m, q⟩ := p
    rw [txtS_yes hT] at h
    simp only [Prod.mk.injEq] at h
    obtain ⟨rfl, rfl, h2⟩ := h
    exact ⟨h2, takeT_sound hT⟩
theorem txtS_back {b t r : ByteArray} (ok : Bool) (ht : t.size ≤ 4000) (h : b.data.toList = (textB t).data.toList ++ r.data.toList) : txtS (b, ok) = (t, (r, ok)) :=
  txtS_yes (s := (b, ok)) (takeT_back2 t r ht h)
def numsS : Nat → St → List Int × St
  | 0, s => ([], s)
  | k + 1, s => ((numS s).1 :: (numsS k (numS s).2).1, (numsS k (numS s).2).2)
theorem numsS_ok : ∀ (k : Nat) (s : St) (zs : List Int) (r : ByteArray), numsS k s = (zs, (r, true)) → s.2 = true ∧ zs.length = k ∧ s.1.data.toList = numsB zs ++ r.data.toList ∧ ∀ z ∈ zs, I64 z
  | 0, s, zs, r, h => by
    simp only [numsS, Prod.mk.injEq] at h
    obtain ⟨rfl, h⟩ := h
    rw [h]
    exact ⟨rfl, rfl, rfl, fun z hz => by cases hz⟩
  | k + 1, s, zs, r, h => by
    simp only [numsS, Prod.mk.injEq] at h
    obtain ⟨rfl, h⟩ := h
    obtain ⟨⟨n, s1⟩, hs1⟩ : ∃ x, numS s = x := ⟨_, rfl⟩
    rw [hs1] at h ⊢
    simp only at h ⊢
    obtain ⟨h1, h2, h3, h4⟩ := numsS_ok k s1 _ r (Prod.ext rfl h)
    obtain ⟨s1a, s1b⟩ := s1
    simp only at h1 h3
    subst h1; obtain ⟨k1, k2, k3⟩ := numS_ok hs1
    refine ⟨k1, by rw [List.length_cons, h2], ?_, fun z hz => ?_⟩
    · rw [k2, h3, numsB_cons, List.append_assoc]
    · rcases List.mem_cons.1 hz with rfl | hz
      · exact k3
      · exact h4 z hz
theorem numsS_back : ∀ (zs : List Int) (b r : ByteArray) (ok : Bool), (∀ z ∈ zs, I64 z) → b.data.toList = numsB zs ++ r.data.toList → numsS zs.length (b, ok) = (zs, (r, ok))
  | [], b, r, ok, _, h => by
    have : b = r := bytes_inj (by rw [h]; rfl)
    subst this; rfl
  | z :: zs, b, r, ok, hz, h => by
    rw [numsB_cons, List.append_assoc] at h
    have h1 := numS_back (b := b) (r := mk (numsB zs ++ r.data.toList)) ok (hz z (List.mem_cons_self ..)) (by rw [mk_li]; exact h)
    rw [List.length_cons, numsS, h1]
    simp only
    rw [numsS_back zs _ r ok (fun x hx => hz x (List.mem_cons_of_mem _ hx)) (mk_li _)]
def endB (s : St) : Bool := s.2 && s.1.toList.isEmpty
theorem empty_iff (b : ByteArray) : b.toList.isEmpty = true ↔ b = ⟨#[]⟩ := by
  rw [ByteArray.toList_eq, List.isEmpty_iff]
  exact ⟨fun h => bytes_inj (by rw [h]), fun h => by rw [h]⟩
theorem endB_iff {s : St} : endB s = true ↔ s = (⟨#[]⟩, true) := by
  unfold endB; rw [Bool.and_eq_true, empty_iff]
  exact ⟨fun h => Prod.ext h.2 h.1, fun h => by rw [h]; exact ⟨rfl, rfl⟩⟩
theorem nums_iff {k : Nat} {s s' : St} {zs : List Int} (h : numsS k s = (zs, s')) : (endB s' = true → s.2 = true ∧ zs.length = k ∧ (∀ z ∈ zs, I64 z) ∧ s.1.data.toList = numsB zs) ∧ (endB s' = false → s.2 = true → ∀ ys : List Int, ys.length = k → (∀ z ∈ ys, I64 z) → s.1.data.toList ≠ numsB ys) := by
  constructor
  · intro he
    rw [endB_iff.1 he] at h
    obtain ⟨h1, h2, h3, h4⟩ := numsS_ok k s zs _ h
    exact ⟨h1, h2, h4, by rw [h3]; simp⟩
  · intro he ht ys hl hy hs
    obtain ⟨b, ok⟩ := s
    simp only at ht hs
    subst ht; have h1 := numsS_back ys b ⟨#[]⟩ true hy (by rw [hs]; simp)
    rw [hl, h] at h1
    simp only [Prod.mk.injEq] at h1
    rw [h1.2, endB_iff.2 rfl] at he
    cases he
theorem numsS_add : ∀ (k m : Nat) (s : St), numsS (k + m) s = ((numsS k s).1 ++ (numsS m (numsS k s).2).1, (numsS m (numsS k s).2).2)
  | 0, m, s => by simp [numsS]
  | k + 1, m, s => by
    rw [Nat.succ_add, numsS, numsS_add k m]
    rfl
theorem lease_iff {part : ByteArray} {z0 z1 : Int} {s1 s2 : St} (h0 : numS (part, true) = (z0, s1)) (h1 : numS s1 = (z1, s2)) :
    (endB s2 = true → part = leaseP ⟨z0, z1⟩ ∧ FitL ⟨z0, z1⟩) ∧ (endB s2 = false → ∀ l, FitL l → part ≠ leaseP l) := by
  have hn : numsS 2 (part, true) = ([z0, z1], s2) := by simp [numsS, h0, h1]
  obtain ⟨k1, k2⟩ := nums_iff hn
  constructor
  · intro he
    obtain ⟨_, _, h3, h4⟩ := k1 he
    refine ⟨bytes_inj ?_, ⟨h3 z0 (by simp), h3 z1 (by simp)⟩⟩
    unfold leaseP; rw [mk_li]; exact h4
  · intro he l hl e
    refine k2 he rfl [l.c, l.u] rfl hl.zs ?_
    rw [e]; unfold leaseP; rw [mk_li]
theorem head_iff {part left : ByteArray} (hp : part.data.toList = 84 :: left.data.toList) {z0 z1 z2 z3 z4 z5 : Int} {s1 s2 s3 s4 s5 s6 : St} (h0 : numS (left, true) = (z0, s1)) (h1 : numS s1 = (z1, s2)) (h2 : numS s2 = (z2, s3)) (h3 : numS s3 = (z3, s4)) (h4 : numS s4 = (z4, s5)) (h5 : numS s5 = (z5, s6)) :
    (endB s6 = true → part = headL [z0, z1, z2, z3, z4, z5] ∧ ∀ z ∈ [z0, z1, z2, z3, z4, z5], I64 z) ∧ (endB s6 = false → ∀ zs : List Int, zs.length = 6 → (∀ z ∈ zs, I64 z) → part ≠ headL zs) := by
  have hn : numsS 6 (left, true) = ([z0, z1, z2, z3, z4, z5], s6) := by simp [numsS, h0, h1, h2, h3, h4, h5]
  obtain ⟨k1, k2⟩ := nums_iff hn
  constructor
  · intro he
    obtain ⟨_, _, q3, q4⟩ := k1 he
    refine ⟨bytes_inj ?_, q3⟩
    unfold headL; rw [mk_li, hp, q4]
  · intro he zs hl hz e
    refine k2 he rfl zs hl hz ?_
    rw [e] at hp
    unfold headL at hp; rw [mk_li] at hp
    exact (List.cons.inj hp).2.symm
theorem head_no {part : ByteArray} (h : ∀ left : ByteArray, part.data.toList ≠ 84 :: left.data.toList) (zs : List Int) : part ≠ headL zs := fun e => by
  refine h (mk (numsB zs)) ?_
  rw [e]; unfold headL; rw [mk_li, mk_li]
def blksS : Nat → St → List Blk × St
  | 0, s => ([], s)
  | k + 1, s => (⟨(numS s).1, (numS (numS s).2).1, (numS (numS (numS s).2).2).1⟩ :: (blksS k (numS (numS (numS s).2).2).2).1, (blksS k (numS (numS (numS s).2).2).2).2)
theorem blksS_nums : ∀ (k : Nat) (s : St), numsS (3 * k) s = (blkZ (blksS k s).1, (blksS k s).2)
  | 0, s => rfl
  | k + 1, s => by
    have e : 3 * (k + 1) = (3 * k) + 1 + 1 + 1 := by omega
    rw [e, numsS, numsS, numsS, blksS_nums k, blksS]
    simp only [blkZ_cons]
theorem blksS_len : ∀ (k : Nat) (s : St), (blksS k s).1.length = k
  | 0, _ => rfl
  | k + 1, s => by rw [blksS, List.length_cons, blksS_len k]
theorem blksS_next : ∀ (k : Nat) (s : St), blksS (k + 1) s = ((blksS k s).1 ++ [⟨(numS (blksS k s).2).1, (numS (numS (blksS k s).2).2).1, (numS (numS (numS (blksS k s).2).2).2).1⟩], (numS (numS (numS (blksS k s).2).2).2).2)
  | 0, s => rfl
  | k + 1, s => by
    rw [blksS, blksS_next k]
    simp only [blksS, List.cons_append]
theorem node_iff {part p : ByteArray} {z0 z1 z2 : Int} {m : Nat} {s1 s2 s3 s4 s5 : St} (h0 : txtS (part, true) = (p, s1)) (h1 : numS s1 = (z0, s2)) (h2 : numS s2 = (z1, s3)) (h3 : numS s3 = (z2, s4)) (h4 : numS s4 = ((m : Int), s5)) (hk : z0 = 0 ∨ z0 = 1) (hm : m ≤ 8) :
    (endB (blksS m s5).2 = true → part = nodeP ⟨p, z0 == 1, z1, (blksS m s5).1, z2⟩ ∧ FitX ⟨p, z0 == 1, z1, (blksS m s5).1, z2⟩) ∧ (endB (blksS m s5).2 = false → ∀ x, FitX x → part ≠ nodeP x) := by
  have hn : numsS (4 + 3 * m) s1 = ([z0, z1, z2, (m : Int)] ++ blkZ (blksS m s5).1, (blksS m s5).2) := by
    have h4' : numsS 4 s1 = ([z0, z1, z2, (m : Int)], s5) := by simp [numsS, h1, h2, h3, h4]
    rw [numsS_add, h4']
    simp only
    rw [blksS_nums]
  have hkd : kindZ (z0 == 1) = z0 := by rcases hk with rfl | rfl <;> rfl
  have hlen := blksS_len m s5
  obtain ⟨k1, k2⟩ := nums_iff hn
  constructor
  · intro he
    obtain ⟨q1, _, q3, q4⟩ := k1 he
    obtain ⟨s1a, s1b⟩ := s1
    simp only at q1 q4
    subst q1; obtain ⟨_, r2, r3⟩ := txtS_ok h0
    have hz : nodeZ ⟨p, z0 == 1, z1, (blksS m s5).1, z2⟩ = [z0, z1, z2, (m : Int)] ++ blkZ (blksS m s5).1 := by
      unfold nodeZ; simp only
      rw [hkd, hlen]
    refine ⟨bytes_inj ?_, ⟨r3, by simp only; omega, q3 z1 (by simp), q3 z2 (by simp), fun b hb => ?_⟩⟩
    · rw [nodeP_list, hz, ← q4]
      exact r2
    · have hsub : ∀ z ∈ [b.id, b.gen, b.len], I64 z := fun z hz => q3 z (List.mem_append_right _ (List.mem_flatMap.2 ⟨b, hb, hz⟩))
      exact ⟨hsub _ (by simp), hsub _ (by simp), hsub _ (by simp)⟩
  · intro he x hx e
    have hl : part.data.toList = (textB x.path).data.toList ++ (mk (numsB (nodeZ x))).data.toList := by rw [e, nodeP_list, mk_li]
    have h5 := txtS_back (b := part) (r := mk (numsB (nodeZ x))) true hx.path hl
    rw [h0] at h5
    simp only [Prod.mk.injEq] at h5
    obtain ⟨rfl, rfl⟩ := h5
    have hb := numsS_back [kindZ x.dir, x.quota, x.wr, (x.bs.length : Int)] (mk (numsB (nodeZ x))) (mk (numsB (blkZ x.bs))) true (fun z hz => hx.zs z (List.mem_append_left _ hz)) (by rw [mk_li, mk_li]; unfold nodeZ; rw [numsB_app])
    have h4' : numsS 4 (mk (numsB (nodeZ x)), true) = ([z0, z1, z2, (m : Int)], s5) := by simp [numsS, h1, h2, h3, h4]
    rw [show [kindZ x.dir, x.quota, x.wr, (x.bs.length : Int)].length = 4 from rfl, h4'] at hb
    simp only [Prod.mk.injEq, List.cons.injEq, and_true] at hb
    obtain ⟨⟨_, _, _, hmm⟩, hs5⟩ := hb
    have hml : x.bs.length = m := by omega
    refine k2 he rfl (nodeZ x) (by rw [nodeZ_len, hml]) hx.zs ?_
    simp only
    rw [mk_li]
theorem node_bad {part p : ByteArray} {z0 z1 z2 z3 : Int} {s1 s2 s3 s4 s5 : St} (h0 : txtS (part, true) = (p, s1)) (h1 : numS s1 = (z0, s2)) (h2 : numS s2 = (z1, s3)) (h3 : numS s3 = (z2, s4)) (h4 : numS s4 = (z3, s5)) (hk : ¬ ((0 ≤ z0 ∧ z0 ≤ 1) ∧ (0 ≤ z3 ∧ z3 ≤ 8))) : ∀ x, FitX x → part ≠ nodeP x := by
  intro x hx e
  have hl : part.data.toList = (textB x.path).data.toList ++ (mk (numsB (nodeZ x))).data.toList := by rw [e, nodeP_list, mk_li]
  have h5 := txtS_back (b := part) (r := mk (numsB (nodeZ x))) true hx.path hl
  rw [h0] at h5
  simp only [Prod.mk.injEq] at h5
  obtain ⟨rfl, rfl⟩ := h5
  have hb := numsS_back [kindZ x.dir, x.quota, x.wr, (x.bs.length : Int)] (mk (numsB (nodeZ x))) (mk (numsB (blkZ x.bs))) true (fun z hz => hx.zs z (List.mem_append_left _ hz)) (by rw [mk_li, mk_li]; unfold nodeZ; rw [numsB_app])
  have h4' : numsS 4 (mk (numsB (nodeZ x)), true) = ([z0, z1, z2, z3], s5) := by simp [numsS, h1, h2, h3, h4]
  rw [show [kindZ x.dir, x.quota, x.wr, (x.bs.length : Int)].length = 4 from rfl, h4'] at hb
  simp only [Prod.mk.injEq, List.cons.injEq, and_true] at hb
  obtain ⟨⟨r0, _, _, r3⟩, _⟩ := hb
  have h8 := hx.few
  apply hk
  constructor
  · rw [r0]; unfold kindZ; cases x.dir <;> simp
  · omega
end Go.Proofs.YtcnflkjkgomnoaaGreat.Img
