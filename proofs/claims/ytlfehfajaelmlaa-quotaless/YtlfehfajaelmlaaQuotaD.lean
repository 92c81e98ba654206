/- A copy of a list of nodes in which one quota is set. -/
import Derived.Test.YtlfehfajaelmlaaQuotaC
namespace Go.Proofs.Ytlfehfajaelmlaa
open Go.RowKit

theorem append_celN {P : Program} (w : World) {ops : Array Oper} {rest : List Oper} {o : Oper} {a : Act} {Q : Exit → Act → World → Prop} (hgd : o.guard = none) (s x : Operand) (t tx : TypeId)
    (ho : o.op = .call { callee := .builtin .append, args := #[s, x], argTypes := #[t, tx] })
    (e : TypeId) (i : TypeInfo) (z : Value) (size bytes : Nat) (ht : P.underlying t = some (.slice e)) (hi : P.info? e = some i) (hz : i.zero = some z) (hsize : i.size = size) (hby : i.bytes = bytes) (hzs : z.cells.size = size)
    {O : Nat → Prop} (sl : Value) (n : Nat) (cs : List Value) (g : Option Nat) (hv : a.eval s = sl) (h : Cel O w size sl n cs g) (xv : Value) (m : Nat) (news : List Value) (hxv : a.eval x = xv) (hs : Src P size tx xv m news w) (hlen : n + m ≤ maxLen) (hlb : (n + m) * bytes ≤ 140737488355328) (N : Nat) (hN : n + m = N) (cs' : List Value) (hcs : cs ++ news = cs')
    (hK : ∀ a' c' w' g', Cel (Grow O w w') w' size (.slice a' N c') N cs' g' → Stay (fun k => g = some k) w w' → (∀ k, g' = some k → g = some k ∨ w.heap.size ≤ k) → wpList P ops Q rest (a.put o.dst (.slice a' N c')) w') : wpList P ops Q (o :: rest) a w := by
  subst hN hcs
  exact wpList_append_cel w hgd s x t tx ho e i z size bytes ht hi hz hsize hby hzs sl n cs g hv h xv m news hxv hs hlen hlb hK

theorem below_none {w w' : World} (h : Stay (fun k => (none : Option Nat) = some k) w w') : Below w.heap.size w w' := ⟨h.os, h.tape, h.output, h.size, fun _ hk => h.block _ hk (fun e => nomatch e)⟩

theorem src_nds {w : World} {b off n c : Nat} {ps : List NR} (h : Nds w (some ⟨b, off, none⟩) b off ps) (hn : ps.length = n) : Src Try.prog 5 22 (.slice (some ⟨b, off, none⟩) n c) n (rowC ndC ps) w := by
  refine Src.ofSlice w Try.underlying22 ⟨b, off, none⟩ n c (rowC ndC ps) (by rw [rowC_len wideX, hn]) (fun j u hu => ?_) (rowC_oneCell wideX ps)
  rw [Addr.add_lit]
  have hj : j < (rowC ndC ps).length := (List.getElem?_eq_some_iff.1 hu).1
  rw [rowC_len wideX] at hj
  obtain ⟨i, r, rfl, hr⟩ : ∃ i r, j = i * 5 + r ∧ r < 5 := ⟨j / 5, j % 5, by omega, by omega⟩
  have hi : i < ps.length := by omega
  rw [rowC_at wideX ps i hi r hr] at hu
  rw [← Nat.add_assoc]
  exact h.cell i hi r u hu

theorem cel_setQ {O : Nat → Prop} {w : World} {g n c : Nat} {ps : List NR} (h : Cel O w 5 (.slice (some ⟨g, 0, none⟩) n c) n (rowC ndC ps) (some g)) (hn : ps.length = n) {k : Nat} (hk : k < ps.length) (q : Int) :
    Cel O (w.setCell ⟨g, k * 5 + 2, none⟩ (.int .i64 q)) 5 (.slice (some ⟨g, 0, none⟩) n c) n (rowC ndC (ps.set k (unQ ps[k] q))) (some g) := by
  have hc := h.cap2
  have hl' : (rowC ndC (ps.set k (unQ ps[k] q))).length = n * 5 := by rw [rowC_len wideX, List.length_set, hn]
  refine h.setCells (k * 5 + 2) [.int .i64 q] (by simp; omega) n _ hc.1 hl' (fun j hj => ?_)
  rw [← List.getElem?_eq_getElem hj]
  rw [hl'] at hj
  obtain ⟨i, r, rfl, hr⟩ : ∃ i r, j = i * 5 + r ∧ r < 5 := ⟨j / 5, j % 5, by omega, by omega⟩
  have hi : i < ps.length := by omega
  rw [rowC_at wideX (ps.set k (unQ ps[k] q)) i (by rw [List.length_set]; exact hi) r hr, rowC_at wideX ps i hi r hr]
  by_cases e : i = k
  · subst e
    rw [List.getElem_set_self]
    match r, hr with
    | 0, _ => rw [if_neg (by rw [List.length_singleton]; omega)]; rfl
    | 1, _ => rw [if_neg (by rw [List.length_singleton]; omega)]; rfl
    | 2, _ => rw [if_pos (by rw [List.length_singleton]; omega), Nat.sub_self]; rfl
    | 3, _ => rw [if_neg (by rw [List.length_singleton]; omega)]; rfl
    | 4, _ => rw [if_neg (by rw [List.length_singleton]; omega)]; rfl
  · rw [if_neg (by rw [List.length_singleton]; omega), List.getElem_set_ne (Ne.symm e)]

theorem set_withQ {ps : List NR} {xs : NS} (hx : ps.map (·.1) = xs) {k : Nat} (hk : k < ps.length) (q : Int) : (ps.set k (unQ ps[k] q)).map (·.1) = withQ xs k q := by
  subst hx
  unfold withQ
  rw [List.map_set, List.getElem?_map, List.getElem?_eq_getElem hk]
  rfl

theorem set_ok {w W : World} {ps : List NR} (hok : ∀ x ∈ ps, NdOk w x) (hb : Below w.heap.size w W) {k : Nat} (hk : k < ps.length) (q : Int) : ∀ x ∈ ps.set k (unQ ps[k] q), NdOk W x := fun x hx => by
  rcases List.mem_or_eq_of_mem_set hx with h | rfl
  · exact (hok x h).below hb
  · exact unQ_ok ((hok _ (List.getElem_mem hk)).below hb) _

theorem bel_setB {base : Nat} {w w2 : World} (h : Below base w w2) (h0 : base ≤ w.heap.size) (b j : Nat) (v : Value) (hb : base ≤ b) : Below base w (w2.setCell ⟨b, j, none⟩ v) :=
  h.trans ((Stay.setCell (O := fun k => k = b) w2 ⟨b, j, none⟩ v rfl).below (Nat.le_trans h0 h.size) (fun k hk => by omega))

theorem ne_new {O : Nat → Prop} {w : World} {ga gb n c : Nat} {cs : List Value} (h : Cel O w 5 (.slice (some ⟨ga, 0, none⟩) n c) n cs (some ga)) (hg : (none : Option Nat) = some gb ∨ w.heap.size ≤ gb) : ga ≠ gb := by
  have := h.lt.1
  rcases hg with e | e
  · cases e
  · omega
theorem set_other {w : World} {ga gb j : Nat} (hne : ga ≠ gb) {v : Value} (h : w.cell? ⟨gb, j, none⟩ = some v) : ∀ u, (w.setCell ⟨ga, j, none⟩ u).cell? ⟨gb, j, none⟩ = some v := fun u => by
  rw [World.cell?_setCell_other]
  · exact h
  · intro e; injection e with e1 e2; exact hne e1

/-- Two copies, in each of which the k-th quota is set. -/
structure Two (w W : World) (ga gb n ca cb k : Nat) (ps : List NR) (q q' : Int) : Prop where
  nla : NL ((W.setCell ⟨ga, k * 5 + 2, none⟩ (.int .i64 q)).setCell ⟨gb, k * 5 + 2, none⟩ (.int .i64 q')) (some ⟨ga, 0, none⟩) n (withQ (ps.map (·.1)) k q)
  nlb : NL ((W.setCell ⟨ga, k * 5 + 2, none⟩ (.int .i64 q)).setCell ⟨gb, k * 5 + 2, none⟩ (.int .i64 q')) (some ⟨gb, 0, none⟩) n (withQ (ps.map (·.1)) k q')
  bel : Below w.heap.size w ((W.setCell ⟨ga, k * 5 + 2, none⟩ (.int .i64 q)).setCell ⟨gb, k * 5 + 2, none⟩ (.int .i64 q'))

theorem two_of {w W : World} {ga gb n ca cb k : Nat} {ps : List NR} (hok : ∀ x ∈ ps, NdOk w x) (hB : Below w.heap.size w W) (hn : ps.length = n) (hk : k < ps.length) (hne : ga ≠ gb)
    (ha : Cel (fun k => w.heap.size ≤ k) W 5 (.slice (some ⟨ga, 0, none⟩) n ca) n (rowC ndC ps) (some ga)) (hb : Cel (fun k => w.heap.size ≤ k) W 5 (.slice (some ⟨gb, 0, none⟩) n cb) n (rowC ndC ps) (some gb)) (q q' : Int) : Two w W ga gb n ca cb k ps q q' := by
  have hbel : Below w.heap.size w ((W.setCell ⟨ga, k * 5 + 2, none⟩ (.int .i64 q)).setCell ⟨gb, k * 5 + 2, none⟩ (.int .i64 q')) := bel_setB (bel_setB hB (Nat.le_refl _) ga _ _ ha.lt.2) (Nat.le_refl _) gb _ _ hb.lt.2
  have ha2 := (cel_setQ ha hn hk q).setOut ⟨gb, k * 5 + 2, none⟩ (.int .i64 q') (fun e => hne (Option.some.inj e))
  have hb2 := cel_setQ (hb.setOut ⟨ga, k * 5 + 2, none⟩ (.int .i64 q) (fun e => hne (Option.some.inj e).symm)) hn hk q'
  exact ⟨nl_of_cel ha2 (by rw [List.length_set, hn]) (set_ok hok hbel hk q) _ (set_withQ rfl hk q), nl_of_cel hb2 (by rw [List.length_set, hn]) (set_ok hok hbel hk q') _ (set_withQ rfl hk q'), hbel⟩

end Go.Proofs.Ytlfehfajaelmlaa
