/- The contract of tabulariumref05.Take. -/
import Derived.Test.YtgjbafpjllfdeaaMailX1
namespace Go.Proofs.Ytgjbafpjllfdeaa
open Go.RowKit

theorem wpList_append_celN {P : Program} (w : World) {ops : Array Oper} {rest : List Oper} {o : Oper} {a : Act} {Q : Exit → Act → World → Prop} (hgd : o.guard = none) (s x : Operand) (t tx : TypeId)
    (ho : o.op = .call { callee := .builtin .append, args := #[s, x], argTypes := #[t, tx] })
    (e : TypeId) (i : TypeInfo) (z : Value) (size bytes : Nat) (ht : P.underlying t = some (.slice e)) (hi : P.info? e = some i) (hz : i.zero = some z) (hsize : i.size = size) (hby : i.bytes = bytes) (hzs : z.cells.size = size)
    {O : Nat → Prop} (sl : Value) (n : Nat) (cs : List Value) (g : Option Nat) (hv : a.eval s = sl) (h : Cel O w size sl n cs g) (xv : Value) (m : Nat) (news : List Value) (hxv : a.eval x = xv) (hs : Src P size tx xv m news w) (N : Nat) (hN : n + m = N) (hlen : N ≤ maxLen) (hlb : N * bytes ≤ 140737488355328) (cs' : List Value) (hcs : cs ++ news = cs')
    (hK : ∀ a' c' w' g', Cel (Grow O w w') w' size (.slice a' N c') N cs' g' → Stay (fun k => g = some k) w w' → (∀ k, g' = some k → g = some k ∨ w.heap.size ≤ k) → wpList P ops Q rest (a.put o.dst (.slice a' N c')) w') : wpList P ops Q (o :: rest) a w := by
  subst hN hcs
  exact wpList_append_cel w hgd s x t tx ho e i z size bytes ht hi hz hsize hby hzs sl n cs g hv h xv m news hxv hs hlen hlb hK

theorem map_erase {α β : Type} (f : α → β) (xs : List α) (k : Nat) : (xs.eraseIdx k).map f = (xs.map f).eraseIdx k := by
  rw [List.eraseIdx_eq_take_drop_succ, List.eraseIdx_eq_take_drop_succ, List.map_append, List.map_take, List.map_drop]

theorem stay_none {w w' : World} (h : Stay (fun k => (none : Option Nat) = some k) w w') : Below w.heap.size w w' := ⟨h.os, h.tape, h.output, h.size, fun _ hk => h.block _ hk (fun e => nomatch e)⟩

section
variable {O : Nat → Prop} {w : World} {q : Nat} {a0 : Option Addr} {c0 : Nat} {g0 : Option Nat} {a1 : Option Addr} {c1 : Nat} {g1 : Option Nat} {ms : List Msg} {us : List Nat}

theorem erase_row {α : Type} (f : α → List Value) (xs : List α) (k : Nat) : rowC f (xs.take k) ++ rowC f (xs.drop (k + 1)) = rowC f (xs.eraseIdx k) := by
  rw [← rowC_app, List.eraseIdx_eq_take_drop_succ]

/-- Both rows are new ones. -/
theorem RefAt.anew {w3 : World} (h3 : RefAt O w3 q a0 c0 g0 a1 c1 g1 ms us) {B2 : Nat} (hB : ∀ k, O k → k < B2) (hB2 : B2 ≤ w3.heap.size) {al : Option Addr} {N cl : Nat} {gl : Option Nat} {ms' : List Msg} (hms : ms'.length = N) (C3 : Cel (fun k => B2 ≤ k) w3 2 (.slice al N cl) N (rowC msgC ms') gl)
    {ga : Option Nat} (hga : ∀ k, ga = some k → B2 ≤ k) (hdj : ∀ k, gl = some k → ga = some k → False) {W w4 : World} (hW : Below (w3.setCell ⟨q, 0, none⟩ (.slice al N cl)).heap.size (w3.setCell ⟨q, 0, none⟩ (.slice al N cl)) W) {aa : Option Addr} {ca : Nat} {ga' : Option Nat} {us' : List Nat} (hus : us'.length = N) (C4 : Cel (fun k => B2 ≤ k) w4 1 (.slice aa N ca) N (rowC numC us') ga')
    (hs4 : Stay (fun k => ga = some k) W w4) (hf4 : ∀ k, ga' = some k → ga = some k ∨ W.heap.size ≤ k) :
    w4.cell? ⟨q, 1, none⟩ = some (.slice a1 us.length c1) ∧ w4.frozen? ⟨q, 1, none⟩ = false ∧ Hid (RefAt (fun k => O k ∨ (B2 ≤ k ∧ k < w4.heap.size)) (w4.setCell ⟨q, 1, none⟩ (.slice aa N ca)) q al cl gl aa ca ga' ms' us' ∧ Stay (fun k => O k ∨ B2 ≤ k) w3 (w4.setCell ⟨q, 1, none⟩ (.slice aa N ca))) := by
  subst hms
  have hq := hB q h3.oQ
  have hgq : ¬ (ga = some q) := fun e => by have := hga q e; omega
  have hglq : gl ≠ some q := fun e => by rw [e] at C3; have := C3.lt.2; omega
  have z0 : (w3.setCell ⟨q, 0, none⟩ (.slice al ms'.length cl)).heap.size = w3.heap.size := by simp [World.setCell]
  have z1 : (w4.setCell ⟨q, 1, none⟩ (.slice aa ms'.length ca)).heap.size = w4.heap.size := by simp [World.setCell]
  have s3 : Stay (fun k => O k ∨ B2 ≤ k) w3 (w3.setCell ⟨q, 0, none⟩ (.slice al ms'.length cl)) := Stay.setCell _ _ _ (.inl h3.oQ)
  have s34 : Stay (fun k => ga = some k) (w3.setCell ⟨q, 0, none⟩ (.slice al ms'.length cl)) w4 := (Stay.of_below hW).trans hs4 (fun _ _ e => e)
  have sz : w3.heap.size ≤ w4.heap.size := by have := s34.size; omega
  have eb := s34.block q (by rw [z0]; omega) hgq
  have x0 : w4.cell? ⟨q, 0, none⟩ = some (.slice al ms'.length cl) := (World.cell?_of_block (a := ⟨q, 0, none⟩) eb).trans (World.cell?_setCell_same _ _ _ h3.k0)
  have x1 : w4.cell? ⟨q, 1, none⟩ = some (.slice a1 us.length c1) := (World.cell?_of_block (a := ⟨q, 1, none⟩) eb).trans (cell_oth (by omega) h3.k1)
  have y0 : w4.frozen? ⟨q, 0, none⟩ = false := by rw [World.frozen?_of_block (a := ⟨q, 0, none⟩) eb, World.frozen?_setCell]; exact h3.f0
  have y1 : w4.frozen? ⟨q, 1, none⟩ = false := by rw [World.frozen?_of_block (a := ⟨q, 1, none⟩) eb, World.frozen?_setCell]; exact h3.f1
  have Cl : Cel (fun k => B2 ≤ k) w4 2 (.slice al ms'.length cl) ms'.length (rowC msgC ms') gl := by
    have e := C3.setOut ⟨q, 0, none⟩ (.slice al ms'.length cl) hglq
    refine e.stay s34.size (fun k hk => ?_) (fun _ e => e)
    rw [hk] at e
    exact s34.block k e.lt.1 (hdj k hk)
  have hg'q : ga' ≠ some q := fun e => by rw [e] at C4; have := C4.lt.2; omega
  refine ⟨x1, y1, ⟨fun k hk => ?_, .inl h3.oQ, cell_oth (by omega) x0, by rw [hus]; exact World.cell?_setCell_same _ _ _ x1, by rw [World.frozen?_setCell]; exact y0, by rw [World.frozen?_setCell]; exact y1, ?_, ?_, hglq, hg'q, fun k e1 e2 => ?_⟩, ?_⟩
  · rw [z1]
    rcases hk with hk | hk
    · exact Nat.lt_of_lt_of_le (h3.lt k hk) sz
    · exact hk.2
  · cases Cl with
    | nil e1 e2 e3 => exact .nil e1 e2 e3
    | row g cap e1 hl e2 e3 e4 e5 e6 e7 =>
      have := (Cel.row (O := fun k => O k ∨ (B2 ≤ k ∧ k < w4.heap.size)) g cap e1 hl (.inr ⟨e2, e3⟩) e3 e4 e5 e6 e7).setOut ⟨q, 1, none⟩ (.slice aa ms'.length ca) hglq
      exact this
  · rw [hus]
    cases C4 with
    | nil e1 e2 e3 => exact .nil e1 e2 e3
    | row g cap e1 hl e2 e3 e4 e5 e6 e7 =>
      have := (Cel.row (O := fun k => O k ∨ (B2 ≤ k ∧ k < w4.heap.size)) g cap e1 hl (.inr ⟨e2, e3⟩) e3 e4 e5 e6 e7).setOut ⟨q, 1, none⟩ (.slice aa ms'.length ca) hg'q
      exact this
  · rcases hf4 k e2 with e | e
    · exact hdj k e1 e
    · rw [e1] at C3
      have := C3.lt.1
      have := hW.size
      omega
  · exact (s3.trans s34 (fun i _ e => .inr (hga i e))).then_same (Stay.setCell _ _ _ (.inl h3.oQ))

theorem rt3 {B : Nat} (hw : w.heap.size ≤ B) (h : RefAt O w q a0 c0 g0 a1 c1 g1 ms us) {w1 w2 w3 : World} (BW2 : Below w.heap.size w w2) (D2 : Below w1.heap.size w1 w2) {sl1 sl2 sl3 : Value} {n1 n2 N : Nat} {cs1 cs2 cs3 : List Value} {gl ga gl3 : Option Nat} (C1 : Cel (fun k => B ≤ k) w1 2 sl1 n1 cs1 gl) (C2 : Cel (fun k => B ≤ k) w2 1 sl2 n2 cs2 ga) (HF2 : ∀ k, ga = some k → w1.heap.size ≤ k) (hB1 : B ≤ w1.heap.size)
    (hC3 : Cel (Grow (fun k => B ≤ k) w2 w3) w3 2 sl3 N cs3 gl3) (hs3 : Stay (fun k => gl = some k) w2 w3) (hf3 : ∀ k, gl3 = some k → gl = some k ∨ w2.heap.size ≤ k) :
    RefAt O w3 q a0 c0 g0 a1 c1 g1 ms us ∧ Cel (fun k => B ≤ k) w3 2 sl3 N cs3 gl3 ∧ Cel (fun k => B ≤ k) w3 1 sl2 n2 cs2 ga ∧ (∀ k, gl3 = some k → ga = some k → False) ∧ B ≤ w3.heap.size ∧ (∀ k, k < B → w3.heap[k]? = w1.heap[k]?) ∧ (∀ k, ga = some k → B ≤ k) ∧ Below w.heap.size w w3 := by
  have sz := D2.size
  have hgl : ∀ k, gl = some k → B ≤ k ∧ k < w1.heap.size := fun k hk => by rw [hk] at C1; exact ⟨C1.lt.2, C1.lt.1⟩
  have hga : ∀ k, ga = some k → B ≤ k ∧ k < w2.heap.size := fun k hk => by rw [hk] at C2; exact ⟨C2.lt.2, C2.lt.1⟩
  have hb23 : Below B w2 w3 := hs3.below (by omega) (fun k hk => (hgl k hk).1)
  have hb3 : Below w.heap.size w w3 := BW2.trans (hb23.mono hw)
  refine ⟨h.below hb3, Cel.low (by omega) hC3, C2.stay hs3.size (fun k hk => hs3.block k (hga k hk).2 (fun e => ?_)) (fun _ e => e), fun k e1 e2 => ?_, by have := hs3.size; omega, fun k hk => (hb23.block k hk).trans (D2.block k (by omega)), fun k hk => (hga k hk).1, hb3⟩
  · have := (hgl k e).2
    have := HF2 k hk
    omega
  · rcases hf3 k e1 with e | e
    · have := (hgl k e).2
      have := HF2 k e2
      omega
    · have := (hga k e2).2
      omega

theorem boxedX (hO : ∀ k, O k → k < w.heap.size) {w3 W4 W5 : World} {B S : Nat} (hb : Below w.heap.size w w3) (h34 : Stay (fun k => O k ∨ B ≤ k) w3 W4) (hB : w.heap.size + 1 ≤ B) (hY : RefAt (fun k => O k ∨ (B ≤ k ∧ k < S)) W4 q a0 c0 g0 a1 c1 g1 ms us) (h45 : Stay (fun k => k = w.heap.size) W4 W5) :
    (∃ a0 c0 g0 a1 c1 g1, RefAt (Grow O w W5) W5 q a0 c0 g0 a1 c1 g1 ms us) ∧ Stay O w W5 := by
  have s04 : Stay O w W4 := (Stay.of_below hb).trans h34 (fun i hi e => e.elim id (fun e => by omega))
  have s05 : Stay O w W5 := s04.trans h45 (fun i hi e => by omega)
  have h1 := hY.stay h45 (fun k hk e => hk.elim (fun hk => by have := hO k hk; omega) (fun hk => by omega))
  refine ⟨⟨_, _, _, _, _, _, h1.wide (fun k hk => ?_) (fun k hk => hk.elim (fun hk => Nat.lt_of_lt_of_le (hO k hk) s05.size) (fun e => e.2))⟩, s05⟩
  rcases hk with hk | hk
  · exact .inl hk
  · exact .inr ⟨by omega, h1.lt k (.inr hk)⟩

theorem rt4 {v : Value} {w1 w3 w4 : World} (hq : q < w.heap.size) (hO : ∀ k, O k → k < w.heap.size) (hs : w.heap.size + 2 ≤ w3.heap.size) (h13 : ∀ k, k < w.heap.size + 2 → w3.heap[k]? = w1.heap[k]?) (h34 : Stay (fun k => O k ∨ w.heap.size + 2 ≤ k) w3 (w4.setCell ⟨q, 1, none⟩ v)) :
    ∀ k, w.heap.size ≤ k → k < w.heap.size + 2 → w4.heap[k]? = w1.heap[k]? := fun k h1 h2 => by
  have e1 := h34.block k (by omega) (fun e => e.elim (fun e => by have := hO k e; omega) (fun e => by omega))
  rw [Below.heap_setCell _ _ _ _ (show k ≠ q by omega)] at e1
  exact e1.trans (h13 k h2)

set_option maxRecDepth 100000 in
set_option maxHeartbeats 4000000 in
theorem refTake_hit (h : RefAt O w q a0 c0 g0 a1 c1 g1 ms us) (n : Nat) (hn : ms.length = n) (hu : us.length = n) (hle : n ≤ 1000) (i : Nat) (hi : i < n) (m : Msg) (hm : ms[i]'(by omega) = m) :
    Calls Try.prog 13 #[.pointer (some ⟨q, 0, none⟩), .int .i64 (i : Int)] w fun e w' => e = .returned (.tuple #[msgV m, .bool true]) ∧ (∃ a0 c0 g0 a1 c1 g1, RefAt (Grow O w w') w' q a0 c0 g0 a1 c1 g1 (ms.eraseIdx i) (us.eraseIdx i)) ∧ Stay O w w' := by
  obtain ⟨ti, hi1, hi2, hi3, hi4⟩ := msgRow
  obtain ⟨tj, hj1, hj2, hj3, hj4⟩ := intRow
  have him : i < ms.length := by omega
  have hiu : i < us.length := by omega
  obtain ⟨b, hab, hgb, he⟩ := h.r0.elem wideM him rfl
  subst hab hgb
  obtain ⟨b2, hab2, hgb2⟩ := h.r1.at2 (by omega)
  subst hab2 hgb2
  rw [hm] at he
  have e0 : w.cell? ⟨b, i * 2, none⟩ = some (.int .i64 m.t) := he 0 _ rfl
  have e1 : w.cell? ⟨b, i * 2 + 1, none⟩ = some (.string m.d) := he 1 _ rfl
  have k0 := h.k0
  rw [hn] at k0
  obtain ⟨j, hj⟩ : ∃ j, i + 1 = j := ⟨_, rfl⟩
  obtain ⟨r, hr⟩ : ∃ r, n - j = r := ⟨_, rfl⟩
  obtain ⟨A, hA⟩ : ∃ A : Addr, (if c0 = j then some (⟨b, 0, none⟩ : Addr) else some ⟨b, j * 2, none⟩) = some A := by
    by_cases e : c0 = j
    · exact ⟨_, if_pos e⟩
    · exact ⟨_, if_neg e⟩
  obtain ⟨A2, hA2⟩ : ∃ A : Addr, (if c1 = j then some (⟨b2, 0, none⟩ : Addr) else some ⟨b2, j, none⟩) = some A := by
    by_cases e : c1 = j
    · exact ⟨_, if_pos e⟩
    · exact ⟨_, if_neg e⟩
  have hc0 : n ≤ c0 := by have := h.r0.cap2.1; omega
  have hc1 : n ≤ c1 := by have := h.r1.cap2.1; omega
  have SM : Hid (∀ W, Below w.heap.size w W → W.cell? ⟨q, 0, none⟩ = some (.slice (some ⟨b, 0, none⟩) n c0) ∧ W.cell? ⟨q, 1, none⟩ = some (.slice (some ⟨b2, 0, none⟩) n c1) ∧ Src Try.prog 2 27 (.slice (some ⟨b, 0, none⟩) i c0) i (rowC msgC (ms.take i)) W ∧ Src Try.prog 2 27 (.slice (some A) r (c0 - j)) r (rowC msgC (ms.drop j)) W ∧ Src Try.prog 1 28 (.slice (some ⟨b2, 0, none⟩) i c1) i (rowC numC (us.take i)) W) := fun W hb => by
    have hW := h.below hb
    have s0 := hW.r0
    have s1 := hW.r1
    have x0 := hW.k0
    have x1 := hW.k1
    rw [hn] at s0 x0
    rw [hu] at s1 x1
    refine ⟨x0, x1, src_firstC Try.underlying27 wideM s0 hn i (by omega), ?_, src_firstC Try.underlying28 wideN s1 hu i (by omega)⟩
    have := src_lastC (c2 := c0 - j) Try.underlying27 wideM s0 hn j r (by omega)
    rwa [hA] at this
  have HM : Hid (RefAt O w q (some ⟨b, 0, none⟩) c0 (some b) (some ⟨b2, 0, none⟩) c1 (some b2) ms us) := h
  have hst := run_store_str
  have hijz : (i : Int) + 1 = (j : Int) := by omega
  have hjn : j ≤ n := by omega
  have hjc : j ≤ c0 := by omega
  have hjc1 : j ≤ c1 := by omega
  have hic : i ≤ c0 := by omega
  have hic1 : i ≤ c1 := by omega
  have hin1 : i + r + 1 = n := by omega
  have HE0 : Hid _ := (erase_row msgC ms i)
  have HE1 : Hid _ := (erase_row numC us i)
  have HJ : Hid (i + 1 = j) := hj
  have HN : Hid (ms.length = n) := hn
  have HU : Hid (us.length = n) := hu
  have hqw : q < w.heap.size := h.lt q h.oQ
  have k0a := cell_al k0
  have e0a := cell_al e0
  have e1a := cell_al e1
  obtain ⟨N, hNN⟩ : ∃ N, i + r = N := ⟨_, rfl⟩
  have HNN : Hid (i + r = N) := hNN
  have hNb : N + 1 = n := by omega
  clear h he hm hn hu hj him hiu k0 e0 e1 hNN
  go_enter Try.func13, Try.ntmps13
  have BB : Hid (∀ B1 B2, Below w.heap.size w ((w.alloc B1).alloc B2)) := fun B1 B2 => (((Below.refl _ w).alloc (Nat.le_refl _) B1).alloc (by simp) B2)
  have M1 : Hid (∀ W, Below w.heap.size w W → Src Try.prog 2 27 (.slice (some ⟨b, 0, none⟩) i c0) i (rowC msgC (ms.take i)) W) := fun W hb => (SM.out W hb).2.2.1
  have M2 : Hid (∀ W, Below w.heap.size w W → Src Try.prog 1 28 (.slice (some ⟨b2, 0, none⟩) i c1) i (rowC numC (us.take i)) W) := fun W hb => (SM.out W hb).2.2.2.2
  have M3 : Hid (∀ W, Below w.heap.size w W → Src Try.prog 2 27 (.slice (some A) r (c0 - j)) r (rowC msgC (ms.drop j)) W) := fun W hb => (SM.out W hb).2.2.2.1
  have HE0' : Hid (rowC msgC (ms.take i) ++ rowC msgC (ms.drop j) = rowC msgC (ms.eraseIdx i)) := by have := HE0.out; rwa [HJ.out] at this
  have HE1' : Hid (rowC numC (us.take i) ++ rowC numC (us.drop j) = rowC numC (us.eraseIdx i)) := by have := HE1.out; rwa [HJ.out] at this
  have M4 : Hid (∀ W, Cel O W 1 (.slice (some ⟨b2, 0, none⟩) us.length c1) us.length (rowC numC us) (some b2) → Src Try.prog 1 28 (.slice (some A2) r (c1 - j)) r (rowC numC (us.drop j)) W) := fun W s1 => by
    rw [HU.out] at s1
    have := src_lastC (c2 := c1 - j) Try.underlying28 wideN s1 HU.out j r (by omega)
    rw [Nat.mul_one, hA2] at this
    exact this
  have L0 : Hid ((ms.eraseIdx i).length = N) := by show _ = _; rw [List.length_eraseIdx, if_pos (by have := HN.out; omega), HN.out]; omega
  have L1 : Hid ((us.eraseIdx i).length = N) := by show _ = _; rw [List.length_eraseIdx, if_pos (by have := HU.out; omega), HU.out]; omega
  have hOB : Hid (∀ k, O k → k < w.heap.size + 2) := fun k hk => by have := HM.out.lt k hk; omega
  have BX : Hid (∀ w1, Below ((w.alloc (.cells #[.int .i64 0, .string ⟨#[]⟩] 32)).alloc (.cells #[.int .i64 m.t, .string m.d] 32)).heap.size ((w.alloc (.cells #[.int .i64 0, .string ⟨#[]⟩] 32)).alloc (.cells #[.int .i64 m.t, .string m.d] 32)) w1 →
      w.heap.size + 2 ≤ w1.heap.size ∧ w1.cell? ⟨w.heap.size, 0, none⟩ = some (.int .i64 0) ∧ w1.cell? ⟨w.heap.size, 1, none⟩ = some (.string ⟨#[]⟩) ∧ w1.frozen? ⟨w.heap.size, 0, none⟩ = false ∧ w1.frozen? ⟨w.heap.size, 1, none⟩ = false ∧ w1.cell? ⟨w.heap.size + 1, 0, none⟩ = some (.int .i64 m.t) ∧ w1.cell? ⟨w.heap.size + 1, 1, none⟩ = some (.string m.d)) := fun w1 hb => by
    have n0 := World.cell?_alloc_new w #[.int .i64 0, .string ⟨#[]⟩] 32 0
    have n1 := World.cell?_alloc_new w #[.int .i64 0, .string ⟨#[]⟩] 32 1
    have fz := World.frozen?_alloc_new w #[.int .i64 0, .string ⟨#[]⟩] 32
    have m0 := World.cell?_alloc_new (w.alloc (.cells #[.int .i64 0, .string ⟨#[]⟩] 32)) #[.int .i64 m.t, .string m.d] 32 0
    have m1 := World.cell?_alloc_new (w.alloc (.cells #[.int .i64 0, .string ⟨#[]⟩] 32)) #[.int .i64 m.t, .string m.d] 32 1
    rw [show (w.alloc (.cells #[.int .i64 0, .string ⟨#[]⟩] 32)).heap.size = w.heap.size + 1 by simp] at m0 m1
    have hl : w.heap.size < ((w.alloc (.cells #[.int .i64 0, .string ⟨#[]⟩] 32)).alloc (.cells #[.int .i64 m.t, .string m.d] 32)).heap.size := by simp; omega
    have fq : ∀ j, w1.frozen? ⟨w.heap.size, j, none⟩ = false := fun j => (World.frozen?_of_block (a := ⟨w.heap.size, j, none⟩) (hb.block _ hl)).trans ((World.frozen?_of_block (a := ⟨w.heap.size, j, none⟩) (((Below.refl _ (w.alloc (.cells #[.int .i64 0, .string ⟨#[]⟩] 32))).alloc (Nat.le_refl _) (.cells #[.int .i64 m.t, .string m.d] 32)).block w.heap.size (by simp))).trans (fz j))
    exact ⟨by have := hb.size; simpa using this, bel_cell hb (cell_al n0 _), bel_cell hb (cell_al n1 _), fq 0, fq 1, bel_cell hb m0, bel_cell hb m1⟩
  go_wp2_with (first
    | (at_builtin; refine wpList_append_celN _ rfl _ _ 27 27 rfl 32 ti _ 2 24 Try.underlying27 hi1 hi2 hi3 hi4 rfl (O := fun k => w.heap.size + 2 ≤ k) _ 0 [] none rfl (.nil rfl rfl rfl) _ i _ rfl (M1.out _ (BB.out _ _)) i (Nat.zero_add i) (by unfold maxLen; omega) (by omega) (rowC msgC (ms.take i)) rfl ?_; intro al cl w1 gl hC1 hs1 hf1; have C1 : Hid _ := Cel.low (by simp) hC1; have BW1 : Hid (Below w.heap.size w w1) := bel_tr (BB.out _ _) (stay_none hs1); have X1 : Hid _ := BX.out w1 (stay_none hs1); have c11 := (SM.out w1 BW1.out).2.1; clear hC1 hs1 hf1 M1)
    | (at_builtin; refine wpList_append_celN _ rfl _ _ 28 28 rfl 3 tj _ 1 8 Try.underlying28 hj1 hj2 hj3 hj4 rfl (O := fun k => w.heap.size + 2 ≤ k) _ 0 [] none rfl (.nil rfl rfl rfl) _ i _ rfl (M2.out _ BW1.out) i (Nat.zero_add i) (by unfold maxLen; omega) (by omega) (rowC numC (us.take i)) rfl ?_; intro aa ca w2 ga hC2 hs2 hf2; have C2 : Hid _ := Cel.low X1.out.1 hC2; have D2 : Hid _ := stay_none hs2; have BW2 : Hid (Below w.heap.size w w2) := bel_tr BW1.out (stay_none hs2); have HF2 : Hid (∀ k, ga = some k → w1.heap.size ≤ k) := fun k hk => (hf2 k hk).elim (fun e => nomatch e) id; have c02 := (SM.out w2 BW2.out).1; clear hC2 hs2 hf2 M2)
    | (at_builtin; refine wpList_append_celN _ rfl _ _ 27 27 rfl 32 ti _ 2 24 Try.underlying27 hi1 hi2 hi3 hi4 rfl (O := fun k => w.heap.size + 2 ≤ k) _ i (rowC msgC (ms.take i)) gl rfl (C1.out.below D2.out) _ r _ rfl (M3.out _ BW2.out) N HNN.out (by unfold maxLen; omega) (by omega) (rowC msgC (ms.eraseIdx i)) HE0'.out ?_; intro al3 cl3 w3 gl3 hC3 hs3 hf3; have E3 : Hid _ := rt3 (by omega) HM.out BW2.out D2.out C1.out C2.out HF2.out X1.out.1 hC3 hs3 hf3; have c03 := E3.out.1.k0; have f03 := E3.out.1.f0; have c13 := E3.out.1.k1; rw [HN.out] at c03; rw [HU.out] at c13; have CW : Hid (Cel (fun k => w.heap.size + 2 ≤ k) (w3.setCell ⟨q, 0, none⟩ (.slice al3 N cl3)) 1 (.slice aa i ca) i (rowC numC (us.take i)) ga) := E3.out.2.2.1.setOut _ _ (fun e => Nat.lt_irrefl q (Nat.lt_of_lt_of_le (Nat.lt_of_lt_of_le hqw (Nat.le_add_right _ 2)) (E3.out.2.2.2.2.2.2.1 q e))); have SW : Hid (Src Try.prog 1 28 (.slice (some A2) r (c1 - j)) r (rowC numC (us.drop j)) (w3.setCell ⟨q, 0, none⟩ (.slice al3 N cl3))) := M4.out _ (E3.out.1.r1.setOut _ _ E3.out.1.n1); clear hC3 hs3 hf3 M3 M4)
    | (at_builtin; refine wpList_append_celN _ rfl _ _ 28 28 rfl 3 tj _ 1 8 Try.underlying28 hj1 hj2 hj3 hj4 rfl (O := fun k => w.heap.size + 2 ≤ k) _ i (rowC numC (us.take i)) ga rfl CW.out _ r _ rfl SW.out N HNN.out (by unfold maxLen; omega) (by omega) (rowC numC (us.eraseIdx i)) HE1'.out ?_; intro aa4 ca4 w4 ga4 hC4 hs4 hf4; obtain ⟨c14, f14, Y⟩ := E3.out.1.anew hOB.out E3.out.2.2.2.2.1 L0.out E3.out.2.1 E3.out.2.2.2.2.2.2.1 E3.out.2.2.2.1 (Below.refl _ _) L1.out (Cel.low (by have := E3.out.2.2.2.2.1; simpa [World.setCell] using this) hC4) hs4 hf4; rw [HU.out] at c14; have G4 : Hid _ := rt4 (v := .slice aa4 N ca4) hqw HM.out.lt E3.out.2.2.2.2.1 E3.out.2.2.2.2.2.1 Y.out.2; have x40 := (World.cell?_of_block (a := ⟨w.heap.size, 0, none⟩) (G4.out w.heap.size (Nat.le_refl _) (by omega))).trans X1.out.2.1; have x41 := (World.cell?_of_block (a := ⟨w.heap.size, 1, none⟩) (G4.out w.heap.size (Nat.le_refl _) (by omega))).trans X1.out.2.2.1; have y40 := (World.frozen?_of_block (a := ⟨w.heap.size, 0, none⟩) (G4.out w.heap.size (Nat.le_refl _) (by omega))).trans X1.out.2.2.2.1; have y41 := (World.frozen?_of_block (a := ⟨w.heap.size, 1, none⟩) (G4.out w.heap.size (Nat.le_refl _) (by omega))).trans X1.out.2.2.2.2.1; have z40 := (World.cell?_of_block (a := ⟨w.heap.size + 1, 0, none⟩) (G4.out (w.heap.size + 1) (by omega) (by omega))).trans X1.out.2.2.2.2.2.1; have z41 := (World.cell?_of_block (a := ⟨w.heap.size + 1, 1, none⟩) (G4.out (w.heap.size + 1) (by omega) (by omega))).trans X1.out.2.2.2.2.2.2; clear hC4 hs4 hf4))
  have n1 : ¬ (q = w.heap.size) := by omega
  have w40 : (w4.setCell ⟨q, 1, none⟩ (.slice aa4 N ca4)).cell? ⟨w.heap.size, 0, none⟩ = some (.int .i64 0) := (World.cell?_setCell_other _ _ _ _ (fun e => n1 (Addr.mk.inj e).1)).trans x40
  have w41 : (w4.setCell ⟨q, 1, none⟩ (.slice aa4 N ca4)).cell? ⟨w.heap.size, 1, none⟩ = some (.string ⟨#[]⟩) := (World.cell?_setCell_other _ _ _ _ (fun e => n1 (Addr.mk.inj e).1)).trans x41
  have E := boxedX HM.out.lt E3.out.2.2.2.2.2.2.2 Y.out.2 (by omega) Y.out.1 (((Stay.refl _ _).then_same (Stay.setCell (O := fun k => k = w.heap.size) _ ⟨w.heap.size, 0, none⟩ (.int .i64 m.t) rfl)).then_same (Stay.setCell _ ⟨w.heap.size, 1, none⟩ (.string m.d) rfl))
  clear x40 x41 y40 y41 z40 z41
  generalize w4.setCell ⟨q, 1, none⟩ (.slice aa4 N ca4) = W4 at *
  have z0 := World.cell?_setCell_same W4 ⟨w.heap.size, 0, none⟩ (.int .i64 m.t) w40
  have z1 : ((W4.setCell ⟨w.heap.size, 0, none⟩ (.int .i64 m.t)).setCell ⟨w.heap.size, 1, none⟩ (.string m.d)).cell? ⟨w.heap.size, 1, none⟩ = some (.string m.d) := World.cell?_setCell_same _ _ _ ((World.cell?_setCell_other _ _ _ _ (by simp)).trans w41)
  exact bodyPost_ret (v := .tuple #[msgV m, .bool true]) (by simp [results, msgV, Try.results13, go_sem, z0, z1]) rfl ⟨rfl, E⟩

end

section
variable {O : Nat → Prop} {w : World} {q : Nat} {xs ys : ML}

set_option maxRecDepth 100000 in
theorem refTake_miss (h : XAt O w q xs) (i : Int) (hi : i < 0 ∨ (xs.length : Int) ≤ i) :
    Calls Try.prog 13 #[.pointer (some ⟨q, 0, none⟩), .int .i64 i] w fun e w' => e = .returned (.tuple #[msgV zeroM, .bool false]) ∧ XAt (Grow O w w') w' q xs ∧ Stay O w w' := by
  have HX : Hid (∀ o, XAt (Grow O w (w.alloc o)) (w.alloc o) q xs) := fun o => (h.below ((Below.refl _ w).alloc (Nat.le_refl _) o)).grow w
  obtain ⟨a0, c0, g0, a1, c1, g1, h⟩ := h.ex
  have k0 := cell_al h.k0
  rw [List.length_map] at k0
  obtain ⟨n, hn⟩ : ∃ n, xs.length = n := ⟨_, rfl⟩
  rw [hn] at k0 hi
  have hst := run_store_str
  clear h hn
  by_cases h0 : i < 0
  · clear hi
    go_enter Try.func13, Try.ntmps13
    go_wp2
    exact bodyPost_ret (v := .tuple #[msgV zeroM, .bool false]) (by simp [results, msgV, zeroM, Try.results13, go_sem]) rfl ⟨rfl, HX.out _, Stay.of_below ((Below.refl _ w).alloc (Nat.le_refl _) _)⟩
  · have h1 : (n : Int) ≤ i := by omega
    clear hi
    go_enter Try.func13, Try.ntmps13
    go_wp2
    exact bodyPost_ret (v := .tuple #[msgV zeroM, .bool false]) (by simp [results, msgV, zeroM, Try.results13, go_sem]) rfl ⟨rfl, HX.out _, Stay.of_below ((Below.refl _ w).alloc (Nat.le_refl _) _)⟩

theorem refTake_val (h : XAt O w q xs) (i : Int) (hle : xs.length ≤ 1000) (o : Option Msg) (ho : atM xs i = o) (hy : takeL xs i = ys) :
    Calls Try.prog 13 #[.pointer (some ⟨q, 0, none⟩), .int .i64 i] w fun e w' => e = .returned (.tuple #[msgV (o.getD zeroM), .bool o.isSome]) ∧ XAt (Grow O w w') w' q ys ∧ Stay O w w' := by
  cases o with
  | none =>
    have hi := atM_miss ho
    have e : ys = xs := by
      rw [← hy]; unfold takeL
      split
      · rw [List.eraseIdx_of_length_le (by omega)]
      · rfl
    rw [e]
    exact refTake_miss h i hi
  | some m =>
    obtain ⟨k, rfl, hk, hm⟩ := atM_hit ho
    have e : ys = xs.eraseIdx k := by rw [← hy]; unfold takeL; rw [if_pos (by omega), Int.toNat_natCast]
    rw [e]
    obtain ⟨a0, c0, g0, a1, c1, g1, h⟩ := h.ex
    refine (refTake_hit h xs.length (by simp) (by simp) hle k hk m (by rw [List.getElem_map]; exact hm)).mono fun e w' ⟨e1, ⟨a0, c0, g0, a1, c1, g1, e2⟩, e3⟩ => ⟨e1, ⟨a0, c0, g0, a1, c1, g1, ?_⟩, e3⟩
    rw [map_erase, map_erase]
    exact e2

end
end Go.Proofs.Ytgjbafpjllfdeaa
