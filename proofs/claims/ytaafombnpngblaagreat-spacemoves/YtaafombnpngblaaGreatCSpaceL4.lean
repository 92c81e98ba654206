/- Stat, whatever is there; what is told by Blocks, held against another list; an answer in a box. -/
import Derived.Test.YtaafombnpngblaaGreatB30
import Derived.Test.YtaafombnpngblaaGreatB34
import Derived.Test.YtaafombnpngblaaGreatB28
import Derived.Test.YtaafombnpngblaaGreatB17
import Derived.BigQuiet
namespace Go.Proofs.YtaafombnpngblaaGreat.Spa
open Go.RowKit Go.Proofs.YtaafombnpngblaaGreat
open Go.Proofs.YtaafombnpngblaaGreat.Edi (Ed Nm EdAt edV)

/-- What Stat tells of a right space. -/
inductive StatE (s : Sp) (p : ByteArray) : Int → Nd → Prop
  | ok (i : Nat) (x : Nd) : Is s.ns p i x → StatE s p 0 x
  | no (I E : Int) : FindR s.ns p I E → E ≠ 0 → StatE s p E zeroN
theorem statE_any (s : Sp) (p : ByteArray) : ∃ E x, StatE s p E x := by
  rcases node_cases s.ns p with h | ⟨h, h2⟩ | ⟨i, x, h⟩
  · exact ⟨1, zeroN, .no 0 1 (.arg h) (by decide)⟩
  · exact ⟨5, zeroN, .no 0 5 (.none h h2) (by decide)⟩
  · exact ⟨0, x, .ok i x h⟩
theorem StatE.is {s : Sp} {p : ByteArray} {E : Int} {x y : Nd} {i : Nat} (h : StatE s p E x) (hi : Is s.ns p i y) : E = 0 ∧ x = y := by
  cases h with
  | ok j x hj => exact ⟨rfl, (hj.one hi).2⟩
  | no I E hf h0 =>
    cases hf with
    | arg hp => rw [hi.path] at hp; cases hp
    | none hp hn => rw [hi.at_] at hn; cases hn
    | ok j x hj => exact absurd rfl h0
structure StatR (E : Int) (x : Nd) (e : Ending) (w' : World) : Prop where
  ex : ∃ sx, e = .returned (anV E zeroB noS (x, sx) 0) ∧ NdOk w' (x, sx)
theorem stat_val {s : Sp} {N L : RS} {w : World} (h : SpIn w s N L) (p : ByteArray) (hp : p.size ≤ maxLen) (hR : RtS s) (E : Int) (x : Nd) (hE : StatE s p E x) :
    Calls Tryz.prog 18 #[spV s N L, .string p] w fun e w' => StatR E x e w' ∧ Below w.heap.size w w' := by
  cases hE with
  | ok i x hi => exact (stat_ok h p hp hR i x hi).mono fun e w' ⟨⟨M, sx, _, h1, h2⟩, h3⟩ => ⟨⟨sx, h1, h2.ok⟩, h3⟩
  | no I E hf h0 => exact (stat_no h p hp hR I E hf h0).mono fun e w' ⟨h1, h2⟩ => ⟨⟨noS, h1, (free_no 0 w' zeroN rfl (by decide)).ok⟩, h2⟩

/-! ### what Blocks tells -/
theorem Sorted.blks {base : Nat} {bs : List Blk} {a : Option Addr} {m c : Nat} {ys : List Blk} {w : World} (h : Sorted base bs a m c ys w) : Blks w ⟨a, m, c⟩ ys := by
  obtain ⟨g, hc⟩ := h.cel
  have hl := h.len
  obtain ⟨hc1, hc2, _⟩ := hc.cap2
  refine ⟨hl, by show m ≤ maxLen; omega, fun hn => ?_, fun hp => ?_⟩
  · cases hc with
    | nil e _ _ => injection e
    | row k cap e _ _ _ _ _ _ _ => injection e with e1 _ _; exact absurd (e1.symm.trans hn) (by simp)
  · have hp : 0 < m := hp
    obtain ⟨b, rfl, rfl⟩ := hc.at2 hp
    refine ⟨b, 0, rfl, fun j hj i v hv => ?_⟩
    obtain ⟨b', e1, e2, e3⟩ := hc.elem wideB hj hl
    cases e1
    have := e3 i v hv
    rw [Nat.zero_add]
    exact this
structure BlkR (ys : List Blk) (e : Ending) (w' : World) : Prop where
  ex : ∃ r : RS, e = .returned (.slice r.a r.n r.c) ∧ Blks w' r ys
/-- The blocks, by their numbers. -/
def sortB (xs : NS) (ys : List Blk) : Prop := ys.Perm (blksL xs) ∧ UpB ys
theorem blocks_val {s : Sp} {N L : RS} {w : World} (h : SpIn w s N L) (hR : RtS s) :
    Calls Tryz.prog 19 #[spV s N L] w fun e w' => (∃ ys, sortB s.ns ys ∧ BlkR ys e w') ∧ Below w.heap.size w w' :=
  (blocks_ok h hR).mono fun e w' ⟨⟨B, _, hG⟩, hb⟩ => by
    obtain ⟨fa, m, fc, ys, he, hS⟩ := hG
    exact ⟨⟨ys, ⟨hS.perm, up_of hS.perm hS.up hR.ids⟩, ⟨⟨fa, m, fc⟩, he, hS.blks⟩⟩, hb⟩
theorem sortB_one {xs zs : NS} {ys us : List Blk} (h : sortB xs ys) (k : sortB zs us) (hp : (blksL xs).Perm (blksL zs)) : ys = us :=
  up_unique ((h.1.trans hp).trans k.1.symm) h.2 k.2

/-! ### boxes -/
theorem an_new (w : World) (t : TypeId) (E : Int) (b : Blk) (x : NR) : AnC (w.alloc (.cells #[.int .i64 E, .int .i64 b.id, .int .i64 b.gen, .int .i64 b.len, .slice none 0 0, .string x.1.path, .bool x.1.dir, .int .i64 x.1.quota, .slice x.2.a x.2.n x.2.c, .int .i64 x.1.wr, .int .i64 0] t)) w.heap.size E b noS x 0 :=
  ⟨World.cell?_alloc_new w _ t 0, World.cell?_alloc_new w _ t 1, World.cell?_alloc_new w _ t 2, World.cell?_alloc_new w _ t 3, World.cell?_alloc_new w _ t 4, World.cell?_alloc_new w _ t 5, World.cell?_alloc_new w _ t 6, World.cell?_alloc_new w _ t 7, World.cell?_alloc_new w _ t 8, World.cell?_alloc_new w _ t 9, World.cell?_alloc_new w _ t 10, fun j => World.frozen?_alloc_new w _ t j⟩
theorem land_new {wr w4 : World} {t : Sp} {N L : RS} {ps : List NR} {g gl : Option Nat} {base M : Nat} {E : Int} {b : Blk} {x : Nd} {sx : RS} (hb : Below wr.heap.size wr w4) (hO : OwnM base M w4 t N L ps g gl) (hF : Free M w4 (x, sx)) (h1 : wr.heap.size ≤ base) (h2 : base ≤ M) (t1 t2 : TypeId) :
    Land wr ((w4.alloc (.cells #[.int .i64 t.tx, .int .i64 t.nb, .int .i64 t.ng, .int .i64 t.now, .slice N.a N.n N.c, .slice L.a L.n L.c] t1)).alloc (.cells #[.int .i64 E, .int .i64 b.id, .int .i64 b.gen, .int .i64 b.len, .slice none 0 0, .string x.path, .bool x.dir, .int .i64 x.quota, .slice sx.a sx.n sx.c, .int .i64 x.wr, .int .i64 0] t2)) w4.heap.size (w4.heap.size + 1) t N L E b x sx := by
  have hB := bel_tr (bel_al w4 (.cells #[.int .i64 t.tx, .int .i64 t.nb, .int .i64 t.ng, .int .i64 t.now, .slice N.a N.n N.c, .slice L.a L.n L.c] t1)) (bel_al _ (.cells #[.int .i64 E, .int .i64 b.id, .int .i64 b.gen, .int .i64 b.len, .slice none 0 0, .string x.path, .bool x.dir, .int .i64 x.quota, .slice sx.a sx.n sx.c, .int .i64 x.wr, .int .i64 0] t2))
  refine ⟨bel_tr hb hB, (SpC.new w4 t1 t N L).below (bel_al _ _), ?_, ps, g, gl, base, M, hO.below hB, h1, (hF.below hB).mono h2⟩
  have h := an_new (w4.alloc (.cells #[.int .i64 t.tx, .int .i64 t.nb, .int .i64 t.ng, .int .i64 t.now, .slice N.a N.n N.c, .slice L.a L.n L.c] t1)) t2 E b (x, sx)
  rwa [show (w4.alloc (.cells #[.int .i64 t.tx, .int .i64 t.nb, .int .i64 t.ng, .int .i64 t.now, .slice N.a N.n N.c, .slice L.a L.n L.c] t1)).heap.size = w4.heap.size + 1 by simp] at h

set_option maxRecDepth 100000 in
set_option maxHeartbeats 1000000 in
/-- Two lists that are the same. -/
theorem blocks_same {r r2 : RS} {bs : List Blk} {w : World} (h : Blks w r bs) (h2 : Blks w r2 bs) :
    Calls Tryz.prog 20 #[.slice r.a r.n r.c, .slice r2.a r2.n r2.c] w fun e w' => e = .returned (.bool true) ∧ Below w.heap.size w w' := by
  have HB : Hid (Blks w r bs) := h
  have HB2 : Hid (Blks w r2 bs) := h2
  have e1 := h.len
  have e2 := h2.len
  have e3 := h.lid
  unfold maxLen at e3
  clear h h2
  obtain ⟨a, n, c⟩ := r
  obtain ⟨a2, n2, c2⟩ := r2
  simp only at e1 e2 e3
  obtain rfl : n2 = n := by omega
  have HN : Hid (bs.length = n2) := e1
  clear e1 e2
  go_enter Tryz.func20, Tryz.ntmps20
  go_wp2
  go_loopw [5] (fun v wr => ∃ i : Nat, i ≤ n2 ∧ v = .int .i64 i ∧ Below w.heap.size w wr) (fun v _ => n2 - (intOf v).toNat)
  case atStart => exact ⟨0, by omega, rfl, Below.refl _ _⟩
  case round =>
    obtain ⟨i, hi, rfl, hb⟩ := hrel
    have HBI : Hid (Below w.heap.size w wr) := hb
    by_cases hlt : i < n2
    · have hib : i < bs.length := by rw [HN.out]; exact hlt
      obtain ⟨p, o, ha, hc⟩ := (HB.out.below hb).cells (by show 0 < n2; omega)
      obtain ⟨p2, o2, ha2, hc2⟩ := (HB2.out.below hb).cells (by show 0 < n2; omega)
      simp only at ha ha2
      subst ha ha2
      have x0 : wr.cell? ⟨p, o + i * 3, none⟩ = some (.int .i64 bs[i].id) := hc i hib 0 _ rfl
      have x1 := hc i hib 1 _ rfl
      have x2 := hc i hib 2 _ rfl
      have y0 : wr.cell? ⟨p2, o2 + i * 3, none⟩ = some (.int .i64 bs[i].id) := hc2 i hib 0 _ rfl
      have y1 := hc2 i hib 1 _ rfl
      have y2 := hc2 i hib 2 _ rfl
      clear hc hc2 hb
      generalize bs[i].id = b0 at *
      generalize bs[i].gen = b1 at *
      generalize bs[i].len = b2 at *
      clear hib
      go_wp2
      go_quiet (fail)
      go_wp2
      go_roundw
      case rel => exact ⟨i + 1, by omega, by go_num, bel_tr HBI.out (bel_drewN _ _)⟩
      case measure => simp [intOf]; omega
    · obtain rfl : i = n2 := by omega
      have hgd : decide ((i : Int) < (i : Int)) = false := decide_eq_false (by omega)
      clear hb hlt
      go_wp2
      go_ret
      exact ⟨rfl, HBI.out⟩

end Go.Proofs.YtaafombnpngblaaGreat.Spa
