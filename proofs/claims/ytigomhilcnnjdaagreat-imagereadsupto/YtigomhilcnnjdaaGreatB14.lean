/- Part 14 of the proof: TreeM, TreeE. -/
import Derived.Test.YtigomhilcnnjdaaGreatB07
import Derived.Test.YtigomhilcnnjdaaGreatB13

/- Nodes and lists of nodes, in plain words and in memory. No program in it. -/
namespace Go.Proofs.YtigomhilcnnjdaaGreat
open Go.RowKit

structure Blk where
  id : Int
  gen : Int
  len : Int
/-- A node. -/
structure Nd where
  path : ByteArray
  dir : Bool
  quota : Int
  bs : List Blk
  wr : Int
/-- A slice's own words. -/
structure RS where
  a : Option Addr
  n : Nat
  c : Nat
/-- A node, and where its blocks lie. -/
abbrev NR := Nd × RS
abbrev NS := List Nd
instance : Inhabited Blk := ⟨⟨0, 0, 0⟩⟩
instance : Inhabited Nd := ⟨⟨⟨#[]⟩, false, 0, [], 0⟩⟩
instance : Inhabited RS := ⟨⟨none, 0, 0⟩⟩

def blkC (b : Blk) : List Value := [.int .i64 b.id, .int .i64 b.gen, .int .i64 b.len]
def ndC (x : NR) : List Value := [.string x.1.path, .bool x.1.dir, .int .i64 x.1.quota, .slice x.2.a x.2.n x.2.c, .int .i64 x.1.wr]
def ndV (x : NR) : Value := .agg #[.string x.1.path, .bool x.1.dir, .int .i64 x.1.quota, .slice x.2.a x.2.n x.2.c, .int .i64 x.1.wr]

theorem wideB : Wide blkC 3 := ⟨fun _ => rfl, fun x u hu => by simp [blkC] at hu; rcases hu with rfl | rfl | rfl <;> rfl⟩
theorem wideX : Wide ndC 5 := ⟨fun _ => rfl, fun x u hu => by simp [ndC] at hu; rcases hu with rfl | rfl | rfl | rfl | rfl <;> rfl⟩

/-- In which block the blocks of a node lie. -/
def RS.blk (s : RS) : Option Nat := if s.n = 0 then none else s.a.map (·.block)

/-! ### blocks in memory -/
structure Blks (w : World) (s : RS) (bs : List Blk) : Prop where
  len : bs.length = s.n
  lid : s.n ≤ maxLen
  nil : s.a = none → s.c = 0
  cells : 0 < s.n → ∃ b off, s.a = some ⟨b, off, none⟩ ∧ ∀ j (hj : j < bs.length) i v, (blkC bs[j])[i]? = some v → w.cell? ⟨b, off + j * 3 + i, none⟩ = some v

theorem Blks.lt {w : World} {s : RS} {bs : List Blk} (h : Blks w s bs) : ∀ k, s.blk = some k → k < w.heap.size := by
  intro k hk
  unfold RS.blk at hk
  split at hk
  · cases hk
  · rename_i hn
    obtain ⟨b, off, ha, hc⟩ := h.cells (by omega)
    rw [ha] at hk
    have e : b = k := by simpa using hk
    subst e
    exact World.block_lt_of_cell? _ _ (hc 0 (by rw [h.len]; omega) 0 _ rfl)

theorem Blks.keep {w w' : World} {s : RS} {bs : List Blk} (h : Blks w s bs) (hb : ∀ k, s.blk = some k → w'.heap[k]? = w.heap[k]?) : Blks w' s bs := by
  refine ⟨h.len, h.lid, h.nil, fun hp => ?_⟩
  obtain ⟨b, off, ha, hc⟩ := h.cells hp
  refine ⟨b, off, ha, fun j hj i v hv => ?_⟩
  have e : w'.heap[b]? = w.heap[b]? := hb b (by unfold RS.blk; rw [if_neg (by omega), ha]; rfl)
  exact (World.cell?_of_block (a := ⟨b, off + j * 3 + i, none⟩) e).trans (hc j hj i v hv)

theorem Blks.below {w w' : World} {s : RS} {bs : List Blk} (h : Blks w s bs) (hb : Below w.heap.size w w') : Blks w' s bs :=
  h.keep fun k hk => hb.block k (h.lt k hk)

/-! ### a node that is handed on -/
structure NdOk (w : World) (x : NR) : Prop where
  small : x.1.path.size ≤ maxLen
  bs : Blks w x.2 x.1.bs

theorem NdOk.below {w w' : World} {x : NR} (h : NdOk w x) (hb : Below w.heap.size w w') : NdOk w' x := ⟨h.small, h.bs.below hb⟩
theorem NdOk.keep {w w' : World} {x : NR} (h : NdOk w x) (hb : ∀ k, x.2.blk = some k → w'.heap[k]? = w.heap[k]?) : NdOk w' x := ⟨h.small, h.bs.keep hb⟩

/-! ### a list of nodes that lies in memory -/
structure Nds (w : World) (a : Option Addr) (b off : Nat) (ps : List NR) : Prop where
  addr : 0 < ps.length → a = some ⟨b, off, none⟩
  len : ps.length ≤ maxLen
  cell : ∀ j (hj : j < ps.length) i v, (ndC ps[j])[i]? = some v → w.cell? ⟨b, off + j * 5 + i, none⟩ = some v
  ok : ∀ x ∈ ps, NdOk w x

theorem Nds.lt {w : World} {a : Option Addr} {b off : Nat} {ps : List NR} (h : Nds w a b off ps) (hp : 0 < ps.length) : b < w.heap.size :=
  World.block_lt_of_cell? _ _ (h.cell 0 hp 0 _ rfl)
theorem Nds.below {w w' : World} {a : Option Addr} {b off : Nat} {ps : List NR} (h : Nds w a b off ps) (hb : Below w.heap.size w w') : Nds w' a b off ps :=
  ⟨h.addr, h.len, fun j hj i v hv => (hb.cell (p := ⟨b, off + j * 5 + i, none⟩) (h.lt (by omega))).trans (h.cell j hj i v hv), fun x hx => (h.ok x hx).below hb⟩

/-- The list xs lies in memory: it is handed on as the slice a, n, c. -/
structure NL (w : World) (a : Option Addr) (n : Nat) (xs : NS) : Prop where
  ex : ∃ b off ps, ps.map (·.1) = xs ∧ xs.length = n ∧ Nds w a b off ps

theorem NL.below {w w' : World} {a : Option Addr} {n : Nat} {xs : NS} (h : NL w a n xs) (hb : Below w.heap.size w w') : NL w' a n xs := by
  obtain ⟨b, off, ps, h1, h2, h3⟩ := h.ex
  exact ⟨b, off, ps, h1, h2, h3.below hb⟩

theorem NL.lid {w : World} {a : Option Addr} {n : Nat} {xs : NS} (h : NL w a n xs) : n ≤ maxLen := by
  obtain ⟨b, off, ps, h1, h2, h3⟩ := h.ex
  have := h3.len
  rw [← h2, ← h1, List.length_map]; exact this

theorem NL.small {w : World} {a : Option Addr} {n : Nat} {xs : NS} (h : NL w a n xs) : ∀ x ∈ xs, x.path.size ≤ maxLen := by
  obtain ⟨b, off, ps, h1, h2, h3⟩ := h.ex
  intro x hx
  rw [← h1] at hx
  obtain ⟨y, hy, rfl⟩ := List.mem_map.1 hx
  exact (h3.ok y hy).small

/-! ### a list of nodes of the call's own -/
structure Free (base : Nat) (w : World) (x : NR) : Prop where
  ok : NdOk w x
  own : 0 < x.2.n → ∃ h, x.2.a = some ⟨h, 0, none⟩ ∧ base ≤ h ∧ ∀ j, j < x.2.n * 3 → (w.cell? ⟨h, j, none⟩).isSome = true ∧ w.frozen? ⟨h, j, none⟩ = false

theorem Free.keep {base : Nat} {w w' : World} {x : NR} (h : Free base w x) (hb : ∀ k, x.2.blk = some k → w'.heap[k]? = w.heap[k]?) : Free base w' x := by
  refine ⟨h.ok.keep hb, fun hp => ?_⟩
  obtain ⟨b, ha, hle, hc⟩ := h.own hp
  have e : w'.heap[b]? = w.heap[b]? := hb b (by unfold RS.blk; rw [if_neg (by omega), ha]; rfl)
  exact ⟨b, ha, hle, fun j hj => ⟨by rw [World.cell?_of_block (a := ⟨b, j, none⟩) e]; exact (hc j hj).1, (World.frozen?_of_block (a := ⟨b, j, none⟩) e).trans (hc j hj).2⟩⟩
theorem Free.below {base : Nat} {w w' : World} {x : NR} (h : Free base w x) (hb : Below w.heap.size w w') : Free base w' x :=
  h.keep fun k hk => hb.block k (h.ok.bs.lt k hk)
theorem Free.mono {b1 b2 : Nat} {w : World} {x : NR} (h : Free b1 w x) (hb : b2 ≤ b1) : Free b2 w x :=
  ⟨h.ok, fun hp => by obtain ⟨b, h1, h2, h3⟩ := h.own hp; exact ⟨b, h1, Nat.le_trans hb h2, h3⟩⟩

structure Lot (base : Nat) (w : World) (a : Option Addr) (n c : Nat) (ps : List NR) (g : Option Nat) : Prop where
  cel : Cel (fun k => base ≤ k) w 5 (.slice a n c) n (rowC ndC ps) g
  len : ps.length = n
  ok : ∀ x ∈ ps, Free base w x
  ap : ∀ x ∈ ps, ∀ k, g = some k → x.2.blk ≠ some k

theorem Lot.stay {base : Nat} {w w' : World} {a : Option Addr} {n c : Nat} {ps : List NR} {g : Option Nat} (h : Lot base w a n c ps g) (hs : w.heap.size ≤ w'.heap.size) (h1 : ∀ k, g = some k → w'.heap[k]? = w.heap[k]?) (h2 : ∀ x ∈ ps, ∀ k, x.2.blk = some k → w'.heap[k]? = w.heap[k]?) : Lot base w' a n c ps g :=
  ⟨h.cel.stay hs h1 (fun _ e => e), h.len, fun x hx => (h.ok x hx).keep (h2 x hx), h.ap⟩
theorem Lot.below {base : Nat} {w w' : World} {a : Option Addr} {n c : Nat} {ps : List NR} {g : Option Nat} (h : Lot base w a n c ps g) (hb : Below w.heap.size w w') : Lot base w' a n c ps g :=
  h.stay hb.size (fun k hk => hb.block k (by have := h.cel; rw [hk] at this; exact this.lt.1)) (fun x hx k hk => hb.block k ((h.ok x hx).ok.bs.lt k hk))
theorem Lot.mono {b1 b2 : Nat} {w : World} {a : Option Addr} {n c : Nat} {ps : List NR} {g : Option Nat} (h : Lot b1 w a n c ps g) (hb : b2 ≤ b1) : Lot b2 w a n c ps g :=
  ⟨h.cel.stay (Nat.le_refl _) (fun _ _ => rfl) (fun _ e => Nat.le_trans hb e), h.len, fun x hx => (h.ok x hx).mono hb, h.ap⟩

theorem Lot.nds {base : Nat} {w : World} {a : Option Addr} {n c : Nat} {ps : List NR} {g : Option Nat} (h : Lot base w a n c ps g) : ∃ b, Nds w a b 0 ps := by
  have hl := h.len
  obtain ⟨hc1, hc2, _⟩ := h.cel.cap2
  by_cases h0 : n = 0
  · exact ⟨0, fun hp => by omega, by omega, fun j hj => by omega, fun x hx => (h.ok x hx).ok⟩
  · obtain ⟨b, rfl, rfl⟩ := h.cel.at2 (by omega)
    refine ⟨b, fun _ => rfl, by omega, fun j hj i v hv => ?_, fun x hx => (h.ok x hx).ok⟩
    obtain ⟨b', e1, e2, e3⟩ := h.cel.elem wideX hj hl
    cases e1
    rw [Nat.zero_add]; exact e3 i v hv

/-- The list xs, of the call's own. -/
structure LX (base : Nat) (w : World) (a : Option Addr) (n c : Nat) (xs : NS) : Prop where
  ex : ∃ ps g, ps.map (·.1) = xs ∧ Lot base w a n c ps g

theorem LX.nl {base : Nat} {w : World} {a : Option Addr} {n c : Nat} {xs : NS} (h : LX base w a n c xs) : NL w a n xs := by
  obtain ⟨ps, g, h1, h2⟩ := h.ex
  obtain ⟨b, h3⟩ := h2.nds
  exact ⟨b, 0, ps, h1, by rw [← h1, List.length_map]; exact h2.len, h3⟩
theorem LX.below {base : Nat} {w w' : World} {a : Option Addr} {n c : Nat} {xs : NS} (h : LX base w a n c xs) (hb : Below w.heap.size w w') : LX base w' a n c xs := by
  obtain ⟨ps, g, h1, h2⟩ := h.ex
  exact ⟨ps, g, h1, h2.below hb⟩
theorem LX.mono {b1 b2 : Nat} {w : World} {a : Option Addr} {n c : Nat} {xs : NS} (h : LX b1 w a n c xs) (hb : b2 ≤ b1) : LX b2 w a n c xs := by
  obtain ⟨ps, g, h1, h2⟩ := h.ex
  exact ⟨ps, g, h1, h2.mono hb⟩
theorem LX.len {base : Nat} {w : World} {a : Option Addr} {n c : Nat} {xs : NS} (h : LX base w a n c xs) : xs.length = n := by
  obtain ⟨ps, g, h1, h2⟩ := h.ex
  rw [← h1, List.length_map]; exact h2.len
theorem LX.no (base : Nat) (w : World) : LX base w none 0 0 [] := ⟨[], none, rfl, ⟨.nil rfl rfl rfl, rfl, fun x hx => (by cases hx), fun x hx => (by cases hx)⟩⟩

/-! ### what the calls tell -/
def rootP : ByteArray := ⟨#[47]⟩
def pathB (p : ByteArray) : Bool := decide (splitE p = 0)
def numB (n : Int) : Bool := decide (1 ≤ n) && decide (n ≤ 9007199254740991)
def blkB (b : Blk) : Bool := numB b.id && numB b.gen && (decide (0 ≤ b.len) && decide (b.len ≤ 64))
def dirB (x : Nd) : Bool := decide (x.bs.length = 0) && decide (x.wr = -1) && (decide (-1 ≤ x.quota) && decide (x.quota ≤ 9007199254740991))
def headB (x : Nd) : Bool := !decide (x.path = rootP) && decide (x.quota = -1) && (decide (-1 ≤ x.wr) && decide (x.wr ≤ 3)) && decide (x.bs.length ≤ 8)
def fileB (x : Nd) : Bool := headB x && x.bs.all blkB
def fitsB (x : Nd) : Bool := pathB x.path && (if x.dir then dirB x else fileB x)

def at? (xs : NS) (p : ByteArray) : Option Nat := xs.findIdx? (fun x => decide (x.path = p))
def findI (xs : NS) (p : ByteArray) : Int := match at? xs p with
  | none => -1
  | some i => (i : Int)
def dirE (xs : NS) (p : ByteArray) : Int := match at? xs p with
  | none => 5
  | some i => if (xs[i]?.map (·.dir)).getD false then 0 else 7
def parD (p : ByteArray) : ByteArray := (parentX p).1
def ltB (a b : ByteArray) : Bool := Op.bytesLess a.toList b.toList

/-- A tree. -/
structure Right (xs : NS) : Prop where
  pos : 0 < xs.length
  few : xs.length ≤ 60
  root : ∀ h : 0 < xs.length, xs[0].path = rootP
  fit : ∀ x ∈ xs, fitsB x = true
  asc : ∀ i (h : i + 1 < xs.length), ltB (xs[i]'(by omega)).path xs[i + 1].path = true
  par : ∀ i (h : i < xs.length), 0 < i → dirE xs (parD xs[i].path) = 0

theorem at_some {xs : NS} {p : ByteArray} {i : Nat} (h : at? xs p = some i) : ∃ hi : i < xs.length, xs[i].path = p ∧ ∀ j (hj : j < i), (xs[j]'(by omega)).path ≠ p := by
  unfold at? at h
  obtain ⟨h1, h2, h3⟩ := List.findIdx?_eq_some_iff_getElem.1 h
  refine ⟨h1, by simpa using h2, fun j hj => ?_⟩
  have := h3 j hj
  simpa using this
theorem at_none {xs : NS} {p : ByteArray} (h : at? xs p = none) : ∀ x ∈ xs, x.path ≠ p := by
  unfold at? at h
  intro x hx
  have := List.findIdx?_eq_none_iff.1 h x hx
  simpa using this
theorem at_is {xs : NS} {p : ByteArray} {i : Nat} (hi : i < xs.length) (h1 : xs[i].path = p) (h2 : ∀ j (hj : j < i), (xs[j]'(by omega)).path ≠ p) : at? xs p = some i := by
  unfold at?
  refine List.findIdx?_eq_some_iff_getElem.2 ⟨hi, by simpa using h1, fun j hj => ?_⟩
  have := h2 j hj
  simpa using this
theorem at_no {xs : NS} {p : ByteArray} (h : ∀ x ∈ xs, x.path ≠ p) : at? xs p = none := by
  unfold at?
  refine List.findIdx?_eq_none_iff.2 fun x hx => ?_
  have := h x hx
  simpa using this

end Go.Proofs.YtigomhilcnnjdaaGreat

/- What each call tells: its error, and what comes. No program in it. -/
namespace Go.Proofs.YtigomhilcnnjdaaGreat
open Go.RowKit

def nameN (p : ByteArray) : ByteArray := (parentX p).2.1
def inB (p : ByteArray) (x : Nd) : Bool := decide ((parentX x.path).2.2 = 0) && decide (parD x.path = p)
def namesL (xs : NS) (p : ByteArray) : List ByteArray := (xs.filter (inB p)).map (fun x => nameN x.path)

inductive ListE (xs : NS) (p : ByteArray) : Int → Prop
  | arg : (Right xs → pathB p = false) → ListE xs p 1
  | dir (e : Int) : Right xs → pathB p = true → dirE xs p = e → e ≠ 0 → ListE xs p e
  | ok : Right xs → pathB p = true → dirE xs p = 0 → ListE xs p 0

theorem listE_any (xs : NS) (p : ByteArray) : ∃ E, ListE xs p E := by
  by_cases h1 : Right xs
  · cases h2 : pathB p with
    | false => exact ⟨1, .arg fun _ => h2⟩
    | true =>
      by_cases h3 : dirE xs p = 0
      · exact ⟨0, .ok h1 h2 h3⟩
      · exact ⟨_, .dir _ h1 h2 rfl h3⟩
  · exact ⟨1, .arg fun h => absurd h h1⟩

def listL (xs : NS) (p : ByteArray) (E : Int) : List ByteArray := if E = 0 then namesL xs p else []

inductive AddE (xs : NS) (x : Nd) : Int → Prop
  | arg : ¬ (Right xs ∧ fitsB x = true ∧ x.path ≠ rootP) → AddE xs x 1
  | exist : Right xs → fitsB x = true → x.path ≠ rootP → at? xs x.path ≠ none → AddE xs x 6
  | par (e : Int) : Right xs → fitsB x = true → x.path ≠ rootP → at? xs x.path = none → dirE xs (parD x.path) = e → e ≠ 0 → AddE xs x e
  | long : Right xs → fitsB x = true → x.path ≠ rootP → at? xs x.path = none → dirE xs (parD x.path) = 0 → 60 ≤ xs.length → AddE xs x 4
  | ok : Right xs → fitsB x = true → x.path ≠ rootP → at? xs x.path = none → dirE xs (parD x.path) = 0 → xs.length < 60 → AddE xs x 0

theorem addE_any (xs : NS) (x : Nd) : ∃ E, AddE xs x E := by
  by_cases h1 : Right xs ∧ fitsB x = true ∧ x.path ≠ rootP
  · obtain ⟨h1, h2, h3⟩ := h1
    by_cases h4 : at? xs x.path = none
    · by_cases h5 : dirE xs (parD x.path) = 0
      · by_cases h6 : 60 ≤ xs.length
        · exact ⟨4, .long h1 h2 h3 h4 h5 h6⟩
        · exact ⟨0, .ok h1 h2 h3 h4 h5 (by omega)⟩
      · exact ⟨_, .par _ h1 h2 h3 h4 rfl h5⟩
    · exact ⟨6, .exist h1 h2 h3 h4⟩
  · exact ⟨1, .arg h1⟩

inductive RemE (xs : NS) (p : ByteArray) : Int → Prop
  | arg : ¬ (Right xs ∧ pathB p = true ∧ p ≠ rootP) → RemE xs p 1
  | none : Right xs → pathB p = true → p ≠ rootP → at? xs p = none → RemE xs p 5
  | ok : Right xs → pathB p = true → p ≠ rootP → at? xs p ≠ none → RemE xs p 0

theorem remE_any (xs : NS) (p : ByteArray) : ∃ E, RemE xs p E := by
  by_cases h1 : Right xs ∧ pathB p = true ∧ p ≠ rootP
  · by_cases h4 : at? xs p = none
    · exact ⟨5, .none h1.1 h1.2.1 h1.2.2 h4⟩
    · exact ⟨0, .ok h1.1 h1.2.1 h1.2.2 h4⟩
  · exact ⟨1, .arg h1⟩

def leftL (xs : NS) (p : ByteArray) : NS := xs.filter (fun x => !underB p x.path)
def remL (xs : NS) (p : ByteArray) (E : Int) : NS := if E = 0 then leftL xs p else []

/-- Whether the node at p is a directory. -/
def isDir (xs : NS) (p : ByteArray) : Bool := decide (dirE xs p = 0)
def movN (f t : ByteArray) (x : Nd) : Nd := ⟨(moveX x.path f t).1, x.dir, x.quota, x.bs, x.wr⟩
def goesB (f : ByteArray) (x : Nd) : Bool := underB f x.path
def stayB (f t : ByteArray) (x : Nd) : Bool := !decide (x.path = t) && !underB f x.path

inductive MovE (xs : NS) (f t : ByteArray) : Int → Prop
  | arg : ¬ (Right xs ∧ pathB f = true ∧ f ≠ rootP ∧ pathB t = true ∧ t ≠ rootP ∧ underB f t = false) → MovE xs f t 1
  | none : Right xs → pathB f = true → f ≠ rootP → pathB t = true → t ≠ rootP → underB f t = false → at? xs f = none → MovE xs f t 5
  | par (e : Int) : Right xs → pathB f = true → f ≠ rootP → pathB t = true → t ≠ rootP → underB f t = false → at? xs f ≠ none → dirE xs (parD t) = e → e ≠ 0 → MovE xs f t e
  | exist : Right xs → pathB f = true → f ≠ rootP → pathB t = true → t ≠ rootP → underB f t = false → at? xs f ≠ none → dirE xs (parD t) = 0 → at? xs t ≠ none → (isDir xs f || isDir xs t) = true → MovE xs f t 6
  | long : Right xs → pathB f = true → f ≠ rootP → pathB t = true → t ≠ rootP → underB f t = false → at? xs f ≠ none → dirE xs (parD t) = 0 → (at? xs t ≠ none → (isDir xs f || isDir xs t) = false) → (∃ x ∈ xs, underB f x.path = true ∧ (moveX x.path f t).2 ≠ 0) → MovE xs f t 4
  | ok : Right xs → pathB f = true → f ≠ rootP → pathB t = true → t ≠ rootP → underB f t = false → at? xs f ≠ none → dirE xs (parD t) = 0 → (at? xs t ≠ none → (isDir xs f || isDir xs t) = false) → (∀ x ∈ xs, underB f x.path = true → (moveX x.path f t).2 = 0) → MovE xs f t 0

theorem movE_any (xs : NS) (f t : ByteArray) : ∃ E, MovE xs f t E := by
  by_cases h : Right xs ∧ pathB f = true ∧ f ≠ rootP ∧ pathB t = true ∧ t ≠ rootP ∧ underB f t = false
  · obtain ⟨h1, h2, h3, h4, h5, h6⟩ := h
    by_cases h7 : at? xs f = none
    · exact ⟨5, .none h1 h2 h3 h4 h5 h6 h7⟩
    · by_cases h8 : dirE xs (parD t) = 0
      · by_cases h9 : at? xs t ≠ none ∧ (isDir xs f || isDir xs t) = true
        · exact ⟨6, .exist h1 h2 h3 h4 h5 h6 h7 h8 h9.1 h9.2⟩
        · have h10 : at? xs t ≠ none → (isDir xs f || isDir xs t) = false := fun e => by
            rw [Bool.eq_false_iff]; exact fun e2 => h9 ⟨e, e2⟩
          by_cases h11 : ∃ x ∈ xs, underB f x.path = true ∧ (moveX x.path f t).2 ≠ 0
          · exact ⟨4, .long h1 h2 h3 h4 h5 h6 h7 h8 h10 h11⟩
          · refine ⟨0, .ok h1 h2 h3 h4 h5 h6 h7 h8 h10 fun x hx hu => ?_⟩
            by_cases e : (moveX x.path f t).2 = 0
            · exact e
            · exact absurd ⟨x, hx, hu, e⟩ h11
      · exact ⟨_, .par _ h1 h2 h3 h4 h5 h6 h7 rfl h8⟩
  · exact ⟨1, .arg h⟩

theorem fits_few {x : Nd} (h : fitsB x = true) : x.bs.length ≤ 8 := by
  unfold fitsB at h
  simp only [Bool.and_eq_true] at h
  have h2 := h.2
  cases hd : x.dir with
  | true =>
    rw [hd] at h2
    simp only [if_true] at h2
    unfold dirB at h2
    simp only [Bool.and_eq_true, decide_eq_true_eq] at h2
    omega
  | false =>
    rw [hd] at h2
    simp only [Bool.false_eq_true, if_false] at h2
    unfold fileB headB at h2
    simp only [Bool.and_eq_true, decide_eq_true_eq] at h2
    exact h2.1.2
theorem Right.few8 {xs : NS} (h : Right xs) : ∀ x ∈ xs, x.bs.length ≤ 8 := fun x hx => fits_few (h.fit x hx)
theorem fits_path {x : Nd} (h : fitsB x = true) : splitE x.path = 0 := by
  unfold fitsB pathB at h
  simp only [Bool.and_eq_true, decide_eq_true_eq] at h
  exact h.1

end Go.Proofs.YtigomhilcnnjdaaGreat
