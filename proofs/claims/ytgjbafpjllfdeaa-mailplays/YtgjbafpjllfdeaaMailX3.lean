/- The contract of tabulariumref05.Age. -/
import Derived.Test.YtgjbafpjllfdeaaMailX2
namespace Go.Proofs.Ytgjbafpjllfdeaa
open Go.RowKit

section
variable {O : Nat → Prop} {w : World} {q : Nat} {xs ys : ML}

theorem ageL_take (t : Int) (xs : ML) (i : Nat) (hi : i < xs.length) : ageL t (xs.take (i + 1)) = ageL t (xs.take i) ++ (if old t xs[i] then [] else [up xs[i]]) := by
  unfold ageL
  rw [keptL_take t xs i hi, List.map_append]
  split <;> rfl

/-- Both rows grow by one. -/
structure Rows2 (B : Nat) (w : World) (la : Option Addr) (lc : Nat) (gl : Option Nat) (aa : Option Addr) (ac : Nat) (ga : Option Nat) (K : Nat) (ms : List Msg) (us : List Nat) : Prop where
  n0 : ms.length = K
  n1 : us.length = K
  l : Cel (fun k => B ≤ k) w 2 (.slice la K lc) K (rowC msgC ms) gl
  a : Cel (fun k => B ≤ k) w 1 (.slice aa K ac) K (rowC numC us) ga
  dj : ∀ k, gl = some k → ga = some k → False

theorem Rows2.below {B : Nat} {w w' : World} {la : Option Addr} {lc : Nat} {gl : Option Nat} {aa : Option Addr} {ac : Nat} {ga : Option Nat} {K : Nat} {ms : List Msg} {us : List Nat} (h : Rows2 B w la lc gl aa ac ga K ms us) (hb : Below w.heap.size w w') : Rows2 B w' la lc gl aa ac ga K ms us :=
  ⟨h.n0, h.n1, h.l.below hb, h.a.below hb, h.dj⟩

theorem rows2_step {B : Nat} {wr W w2 W2 w3 : World} {la la2 : Option Addr} {lc lc2 : Nat} {gl gl2 : Option Nat} {aa aa2 : Option Addr} {ac ac2 : Nat} {ga ga2 : Option Nat} {K : Nat} {ms : List Msg} {us : List Nat} {m : Msg} {u : Nat} (h : Rows2 B wr la lc gl aa ac ga K ms us) (hB : B ≤ wr.heap.size) (b1 : Below wr.heap.size wr W)
    (C2 : Cel (Grow (fun k => B ≤ k) W w2) w2 2 (.slice la2 (K + 1) lc2) (K + 1) (rowC msgC ms ++ msgC m) gl2) (s2 : Stay (fun k => gl = some k) W w2) (f2 : ∀ k, gl2 = some k → gl = some k ∨ W.heap.size ≤ k) (b2 : Below w2.heap.size w2 W2)
    (C3 : Cel (Grow (fun k => B ≤ k) W2 w3) w3 1 (.slice aa2 (K + 1) ac2) (K + 1) (rowC numC us ++ numC u) ga2) (s3 : Stay (fun k => ga = some k) W2 w3) (f3 : ∀ k, ga2 = some k → ga = some k ∨ W2.heap.size ≤ k) :
    Rows2 B w3 la2 lc2 gl2 aa2 ac2 ga2 (K + 1) (ms ++ [m]) (us ++ [u]) ∧ Below B wr w3 := by
  have z1 := b1.size
  have z2 := s2.size
  have z3 := b2.size
  have z4 := s3.size
  have hgl : ∀ k, gl = some k → B ≤ k ∧ k < wr.heap.size := fun k hk => by have := h.l; rw [hk] at this; exact ⟨this.lt.2, this.lt.1⟩
  have hga : ∀ k, ga = some k → B ≤ k ∧ k < wr.heap.size := fun k hk => by have := h.a; rw [hk] at this; exact ⟨this.lt.2, this.lt.1⟩
  have hgl2 : ∀ k, gl2 = some k → k < w2.heap.size := fun k hk => by rw [hk] at C2; exact C2.lt.1
  have d2 : ∀ k, gl2 = some k → ga = some k → False := fun k e1 e2 => by
    rcases f2 k e1 with e | e
    · exact h.dj k e e2
    · have := (hga k e2).2; omega
  have L2 : Cel (fun k => B ≤ k) w2 2 (.slice la2 (K + 1) lc2) (K + 1) (rowC msgC (ms ++ [m])) gl2 := by rw [rowC_app, rowC_one]; exact Cel.low (by omega) C2
  refine ⟨⟨by rw [List.length_append, h.n0]; rfl, by rw [List.length_append, h.n1]; rfl, ?_, by rw [rowC_app, rowC_one]; exact Cel.low (by omega) C3, fun k e1 e2 => ?_⟩, ?_⟩
  · exact (L2.below b2).stay s3.size (fun k hk => s3.block k (by have := hgl2 k hk; omega) (d2 k hk)) (fun _ e => e)
  · rcases f3 k e2 with e | e
    · exact d2 k e1 e
    · have := hgl2 k e1; omega
  · exact (((b1.mono hB).trans (s2.below (by omega) (fun k hk => (hgl k hk).1))).trans (b2.mono (by omega))).trans (s3.below (by omega) (fun k hk => (hga k hk).1))

/-- At the append to the second row. -/
theorem rows2_mid {B : Nat} {wr W w2 : World} {la : Option Addr} {lc : Nat} {gl : Option Nat} {aa : Option Addr} {ac : Nat} {ga : Option Nat} {K : Nat} {ms : List Msg} {us : List Nat} (h : Rows2 B wr la lc gl aa ac ga K ms us) (hB : B ≤ wr.heap.size) (b1 : Below wr.heap.size wr W) (s2 : Stay (fun k => gl = some k) W w2) :
    Cel (fun k => B ≤ k) w2 1 (.slice aa K ac) K (rowC numC us) ga ∧ Below B wr w2 := by
  have hgl : ∀ k, gl = some k → B ≤ k := fun k hk => by have := h.l; rw [hk] at this; exact this.lt.2
  have hga : ∀ k, ga = some k → k < wr.heap.size := fun k hk => by have := h.a; rw [hk] at this; exact this.lt.1
  exact ⟨(h.a.below b1).stay s2.size (fun k hk => s2.block k (by have := hga k hk; have := b1.size; omega) (fun e => h.dj k e hk)) (fun _ e => e), (b1.mono hB).trans (s2.below (by have := b1.size; omega) hgl)⟩

theorem anewX {q : Nat} {a0 : Option Addr} {c0 : Nat} {g0 : Option Nat} {a1 : Option Addr} {c1 : Nat} {g1 : Option Nat} {ms : List Msg} {us : List Nat} (hO : ∀ k, O k → k < w.heap.size) {w3 W4 : World} {S : Nat} (hb : Below w.heap.size w w3) (hY : RefAt (fun k => O k ∨ (w.heap.size ≤ k ∧ k < S)) W4 q a0 c0 g0 a1 c1 g1 ms us) (h34 : Stay (fun k => O k ∨ w.heap.size ≤ k) w3 W4) :
    (∃ a0 c0 g0 a1 c1 g1, RefAt (Grow O w W4) W4 q a0 c0 g0 a1 c1 g1 ms us) ∧ Stay O w W4 := by
  have s04 : Stay O w W4 := (Stay.of_below hb).trans h34 (fun i hi e => e.elim id (fun e => by omega))
  refine ⟨⟨_, _, _, _, _, _, hY.wide (fun k hk => ?_) (fun k hk => hk.elim (fun hk => Nat.lt_of_lt_of_le (hO k hk) s04.size) (fun e => e.2))⟩, s04⟩
  rcases hk with hk | hk
  · exact .inl hk
  · exact .inr ⟨hk.1, hY.lt k (.inr hk)⟩

set_option maxRecDepth 100000 in
set_option maxHeartbeats 4000000 in
theorem refAge_val (h : XAt O w q xs) (hle : xs.length ≤ 1000) (hag : ∀ x ∈ xs, x.2 ≤ 1000000) (t : Int) (r : Int) (hr : (xs.length : Int) - ((keptL t xs).length : Int) = r) (hy : ageL t xs = ys) :
    Calls Try.prog 17 #[.pointer (some ⟨q, 0, none⟩), .int .i64 t] w fun e w' => e = .returned (.int .i64 r) ∧ XAt (Grow O w w') w' q ys ∧ Stay O w w' := by
  subst hy
  obtain ⟨a0, c0, g0, a1, c1, g1, h⟩ := h.ex
  obtain ⟨ti, hi1, hi2, hi3, hi4⟩ := msgRow
  obtain ⟨tj, hj1, hj2, hj3, hj4⟩ := intRow
  obtain ⟨n, hn⟩ : ∃ n, xs.length = n := ⟨_, rfl⟩
  have HM : Hid (RefAt O w q a0 c0 g0 a1 c1 g1 (xs.map (·.1)) (xs.map (·.2))) := h
  have HN : Hid (xs.length = n) := hn
  have HAG : Hid _ := hag
  have HR : Hid _ := hr
  rw [hn] at hle
  have QF : Hid (∀ W, Below w.heap.size w W → W.cell? ⟨q, 0, none⟩ = some (.slice a0 n c0) ∧ W.cell? ⟨q, 1, none⟩ = some (.slice a1 n c1) ∧ W.frozen? ⟨q, 0, none⟩ = false ∧ W.frozen? ⟨q, 1, none⟩ = false) := fun W hb => by
    have := h.below hb
    have x0 := this.k0
    have x1 := this.k1
    rw [List.length_map, hn] at x0 x1
    exact ⟨x0, x1, this.f0, this.f1⟩
  clear h hn hag hr
  go_enter Try.func17, Try.ntmps17
  go_wp2
  go_loopw [5, 6, 7, 8] (fun v5 v6 v7 v8 wr => ∃ (i G K : Nat) (la : Option Addr) (lc : Nat) (gl : Option Nat) (aa : Option Addr) (ac : Nat) (ga : Option Nat), i ≤ n ∧ v8 = .int .i64 i ∧ v5 = .int .i64 G ∧ G + K = i ∧ v6 = .slice la K lc ∧ v7 = .slice aa K ac ∧ Rows2 w.heap.size wr la lc gl aa ac ga K ((ageL t (xs.take i)).map (·.1)) ((ageL t (xs.take i)).map (·.2)) ∧ Below w.heap.size w wr) (fun _ _ _ v8 _ => n - (intOf v8).toNat)
  case atStart => exact ⟨0, 0, 0, none, 0, none, none, 0, none, by omega, rfl, rfl, rfl, rfl, rfl, ⟨rfl, rfl, .nil rfl rfl rfl, .nil rfl rfl rfl, fun k e => by cases e⟩, Below.refl _ _⟩
  case round =>
    obtain ⟨i, G, K, la, lc, gl, aa, ac, ga, hin, rfl, rfl, hGK, rfl, rfl, hR, hB⟩ := hrel
    have HR2 : Hid (Rows2 w.heap.size wr la lc gl aa ac ga K ((ageL t (xs.take i)).map (·.1)) ((ageL t (xs.take i)).map (·.2))) := hR
    have HB : Hid (Below w.heap.size w wr) := hB
    have hwr := hB.size
    obtain ⟨x0, x1, x2, x3⟩ := QF.out wr hB
    clear hR hB
    by_cases hlt : i < n
    · have hix : i < xs.length := by rw [HN.out]; exact hlt
      have hbel := HM.out.below HB.out
      obtain ⟨b, hab, hgb, he⟩ := hbel.r0.elem (i := i) wideM (by rw [List.length_map]; exact hix) rfl
      obtain ⟨b2, hab2, hgb2, he2⟩ := hbel.r1.elem (i := i) wideN (by rw [List.length_map]; exact hix) rfl
      subst hab hgb hab2 hgb2
      obtain ⟨xm, xa, hx⟩ : ∃ xm xa, xs[i] = (xm, xa) := ⟨_, _, rfl⟩
      rw [List.getElem_map, hx] at he he2
      have e0 : wr.cell? ⟨b, i * 2, none⟩ = some (.int .i64 xm.t) := he 0 _ rfl
      have e1 : wr.cell? ⟨b, i * 2 + 1, none⟩ = some (.string xm.d) := he 1 _ rfl
      have e2 : wr.cell? ⟨b2, i, none⟩ = some (.int .i64 (xa : Int)) := by have := he2 0 _ rfl; rw [Nat.mul_one] at this; exact this
      have hxa : xa ≤ 1000000 := by have := HAG.out _ (List.getElem_mem hix); rw [hx] at this; exact this
      have hat := ageL_take t xs i hix
      rw [hx] at hat
      have HAT : Hid _ := hat
      clear hbel he he2 hat hx hix
      cases hv : old t (xm, xa) with
      | true =>
        have hd1 : decide (t ≤ (xa : Int)) = true := hv
        have HE : Hid (ageL t (xs.take (i + 1)) = ageL t (xs.take i)) := by show _ = _; rw [HAT.out, hv]; simp
        clear hv
        go_wp2
        go_roundw
        case rel => exact ⟨i + 1, G + 1, K, la, lc, gl, aa, ac, ga, by omega, by go_num, by go_num, by omega, rfl, rfl, by rw [HE.out]; exact HR2.out, HB.out⟩
        case measure => simp [intOf]; omega
      | false =>
        have hd1 : decide (t ≤ (xa : Int)) = false := hv
        have hd2 : decide (t < 1) = false := by have := of_decide_eq_false hd1; exact decide_eq_false (by omega)
        have HE : Hid (ageL t (xs.take (i + 1)) = ageL t (xs.take i) ++ [(xm, xa + 1)]) := by show _ = _; rw [HAT.out, hv]; simp [up]
        clear hv
        have A1 : Hid (∀ o, Below wr.heap.size wr (wr.alloc o)) := fun o => (Below.refl _ wr).alloc (Nat.le_refl _) o
        have hK : K ≤ 1000 := by omega
        have B2L : Hid (b2 < w.heap.size) := (HM.out.g1O rfl).2
        go_wp2_with (first
          | (at_builtin; refine wpList_append_celN _ rfl _ _ 27 27 rfl 32 ti _ 2 24 Try.underlying27 hi1 hi2 hi3 hi4 rfl (O := fun k => w.heap.size ≤ k) _ K _ gl rfl (HR2.out.l.below (A1.out _)) _ 1 (msgC xm) rfl (src_lastB Try.underlying27 wideM wr _ rfl xm _ rfl _) (K + 1) rfl (by unfold maxLen; omega) (by omega) _ rfl ?_; intro la2 lc2 w2 gl2 hC2 hs2 hf2; have E2 : Hid _ := And.intro hC2 (And.intro hs2 hf2); have M2 : Hid _ := rows2_mid HR2.out hwr (A1.out _) hs2; obtain ⟨y0, y1, _, _⟩ := QF.out w2 (HB.out.trans M2.out.2); have e22 := (M2.out.2.cell (p := ⟨b2, i, none⟩) B2L.out).trans e2; clear hC2 hs2 hf2)
          | (at_builtin; refine wpList_append_celN _ rfl _ _ 28 28 rfl 3 tj _ 1 8 Try.underlying28 hj1 hj2 hj3 hj4 rfl (O := fun k => w.heap.size ≤ k) _ K _ ga rfl (M2.out.1.below ((Below.refl _ w2).alloc (Nat.le_refl _) _)) _ 1 (numC (xa + 1)) rfl (src_lastB Try.underlying28 wideN w2 _ rfl (xa + 1) _ rfl _) (K + 1) rfl (by unfold maxLen; omega) (by omega) _ rfl ?_; intro aa2 ac2 w3 ga2 hC3 hs3 hf3; have E3 : Hid _ := rows2_step HR2.out hwr (A1.out _) E2.out.1 E2.out.2.1 E2.out.2.2 ((Below.refl _ w2).alloc (Nat.le_refl _) _) hC3 hs3 hf3; clear hC3 hs3 hf3))
        go_roundw
        case rel => exact ⟨i + 1, G, K + 1, la2, lc2, gl2, aa2, ac2, ga2, by omega, by go_num, rfl, by omega, rfl, rfl, by rw [HE.out, List.map_append, List.map_append]; exact E3.out.1, HB.out.trans E3.out.2⟩
        case measure => simp [intOf]; omega
    · obtain rfl : i = n := by omega
      have htk : xs.take i = xs := List.take_of_length_le (by rw [HN.out]; omega)
      have hR3 := HR2.out
      rw [htk] at hR3
      have hKl : (keptL t xs).length = K := by rw [← ageL_len]; have := hR3.n0; rwa [List.length_map] at this
      have hGr : (G : Int) = r := by rw [← HR.out, HN.out, hKl]; omega
      have hgd : decide ((i : Int) < (i : Int)) = false := decide_eq_false (by omega)
      have hgaB : ∀ k, ga = some k → w.heap.size ≤ k := fun k hk => by have := hR3.a; rw [hk] at this; exact this.lt.2
      have hqw := HM.out.lt q HM.out.oQ
      obtain ⟨_, _, Y⟩ := (HM.out.below HB.out).anew HM.out.lt hwr hR3.n0 hR3.l hgaB hR3.dj (Below.refl _ _) hR3.n1 (hR3.a.setOut ⟨q, 0, none⟩ (.slice la K lc) (fun e => by have := hgaB q e; omega)) (Stay.refl _ _) (fun k hk => .inl hk)
      have X : Hid _ := anewX HM.out.lt HB.out Y.out.1 Y.out.2
      clear hR3 htk hKl Y hgaB hlt
      go_wp2
      go_ret
      exact ⟨by first | rfl | (rw [← hGr]; rfl) | (rw [hGr]; rfl), ⟨X.out.1⟩, X.out.2⟩

end
end Go.Proofs.Ytgjbafpjllfdeaa
