/- The contracts of mail.line.pass's own function, slices.IndexFunc, slices.DeleteFunc. -/
import Derived.Test.YtgjbafpjllfdeaaMailF3
namespace Go.Proofs.Ytgjbafpjllfdeaa
open Go.RowKit

set_option maxRecDepth 100000 in
theorem del_val (m : Msg) (k : Nat) (T : Nat) (t : Int) (v : Bool) (w : World) (hT : w.cell? ⟨T, 0, none⟩ = some (.int .i64 t)) (hv : old t (m, k) = v) :
    Calls Try.prog 31 #[.agg #[.int .i64 m.t, .string m.d, .int .i64 (k : Int)], .pointer (some ⟨T, 0, none⟩)] w fun e w' => e = .returned (.bool v) ∧ Below w.heap.size w w' := by
  have hTa := cell_al hT
  have hv2 : decide (t ≤ (k : Int)) = v := hv
  clear hT hv
  go_enter Try.func31, Try.ntmps31
  go_wp2
  go_ret
  exact ⟨rfl, (Below.refl _ w).alloc (Nat.le_refl _) _⟩

/-- What IndexFunc tells. -/
def IdxIs (t : Int) (xs : ML) (q : Int) : Prop := (q = -1 ∧ ∀ x ∈ xs, old t x = false) ∨ ∃ k : Nat, q = (k : Int) ∧ ∃ hk : k < xs.length, old t xs[k] = true ∧ ∀ x ∈ xs.take k, old t x = false

section
variable {O : Nat → Prop} {w : World} {p : Nat} {a : Option Addr} {c : Nat} {g : Option Nat} {xs : ML}

set_option maxRecDepth 100000 in
set_option maxHeartbeats 1000000 in
theorem index_val {n : Nat} (h : Cel O w 3 (.slice a n c) n (rowC agC xs) g) (hn : xs.length = n) (hle : n ≤ 1000) (T : Nat) (t : Int) (hT : w.cell? ⟨T, 0, none⟩ = some (.int .i64 t)) :
    Calls Try.prog 32 #[.slice a n c, .func (.func 31) #[] #[.pointer (some ⟨T, 0, none⟩)]] w fun e w' => ∃ q, e = .returned (.int .i64 q) ∧ IdxIs t xs q ∧ Below w.heap.size w w' := by
  have HC : Hid _ := h
  have HN : Hid _ := hn
  have HT : Hid _ := hT
  clear h hn hT
  go_enter Try.func32, Try.ntmps32
  go_wp2
  go_loopw [5, 8] (fun _ v8 wr => ∃ i : Nat, i ≤ n ∧ v8 = .int .i64 i ∧ Below w.heap.size w wr ∧ ∀ x ∈ xs.take i, old t x = false) (fun _ v8 _ => n - (intOf v8).toNat)
  case atStart => exact ⟨0, by omega, rfl, Below.refl _ _, fun x hx => by simp at hx⟩
  case round =>
    obtain ⟨i, hi, rfl, hb, hall⟩ := hrel
    have HB : Hid _ := hb
    have HA : Hid _ := hall
    by_cases hlt : i < n
    · have hi2 : i < xs.length := by rw [HN.out]; exact hlt
      obtain ⟨b, rfl, rfl, he⟩ := (HC.out.below hb).elem wideA hi2 HN.out
      have hTr := bel_cell hb HT.out
      have hnx : Hid (xs.take (i + 1) = xs.take i ++ [xs[i]]) := List.take_succ_eq_append_getElem hi2
      obtain ⟨xm, xa, hx⟩ : ∃ xm xa, xs[i] = (xm, xa) := ⟨_, _, rfl⟩
      have HX : Hid (xs[i] = (xm, xa)) := hx
      rw [hx] at he
      have e0 : wr.cell? ⟨b, i * 3, none⟩ = some (.int .i64 xm.t) := he 0 _ rfl
      have e1 : wr.cell? ⟨b, i * 3 + 1, none⟩ = some (.string xm.d) := he 1 _ rfl
      have e2 : wr.cell? ⟨b, i * 3 + 2, none⟩ = some (.int .i64 (xa : Int)) := he 2 _ rfl
      have CD : Hid _ := fun v (hv : old t (xm, xa) = v) => del_val xm xa T t v wr hTr hv
      clear hb hall he hTr hx
      cases hv : old t (xm, xa) with
      | true =>
        have HV : Hid _ := hv
        go_wp2_with (refine (CD.out true HV.out).mono ?_; rintro e w1 ⟨rfl, hb1⟩)
        go_ret
        exact ⟨_, rfl, .inr ⟨i, rfl, hi2, by rw [HX.out]; exact HV.out, HA.out⟩, bel_tr HB.out hb1⟩
      | false =>
        have HV : Hid _ := hv
        go_wp2_with (refine (CD.out false HV.out).mono ?_; rintro e w1 ⟨rfl, hb1⟩)
        go_roundw
        case rel =>
          refine ⟨i + 1, by omega, by go_num, bel_tr HB.out hb1, fun y hy => ?_⟩
          rw [hnx.out, HX.out] at hy
          rcases List.mem_append.1 hy with hy | hy
          · exact HA.out y hy
          · rw [List.mem_singleton.1 hy]; exact HV.out
        case measure => simp [intOf]; omega
    · obtain rfl : i = n := by omega
      have hgd : decide ((i : Int) < (i : Int)) = false := decide_eq_false (by omega)
      clear hb hall hlt
      go_wp2
      go_ret
      refine ⟨_, rfl, .inl ⟨rfl, ?_⟩, HB.out⟩
      have := HA.out
      rwa [List.take_of_length_le (by rw [HN.out]; omega)] at this

end

/-- One element is written. -/
theorem Cel.setElem {α : Type} {f : α → List Value} {k : Nat} (hf : Wide f k) {O : Nat → Prop} {w : World} {a : Option Addr} {n c b : Nat} {ys : List α} (h : Cel O w k (.slice a n c) n (rowC f ys) (some b)) (hn : ys.length = n) (i : Nat) (hi : i < n) (x : α) :
    Cel O (w.setCells b (i * k) (f x)) k (.slice a n c) n (rowC f (ys.set i x)) (some b) := by
  have hx := hf.len x
  have h1 : (i + 1) * k ≤ c * k := Nat.mul_le_mul_right _ (by have := h.cap2.1; omega)
  have h2 : (i + 1) * k = i * k + k := by rw [Nat.add_mul, Nat.one_mul]
  have hl : (rowC f (ys.set i x)).length = n * k := by rw [rowC_len hf, List.length_set, hn]
  have hlt : (rowC f (ys.take i)).length = i * k := by rw [rowC_len hf, List.length_take, Nat.min_eq_left (by omega)]
  refine h.setCells (i * k) (f x) (by omega) n _ h.cap2.1 hl (fun q hq => ?_)
  rw [← List.getElem?_eq_getElem hq, rowC_set ys i (by omega) x]
  by_cases e : i * k ≤ q ∧ q < i * k + (f x).length
  · rw [if_pos e, List.append_assoc, List.getElem?_append_right (by omega), hlt, List.getElem?_append_left (by omega)]
  · rw [if_neg e]
    have ey : rowC f ys = rowC f (ys.take i) ++ f (ys[i]'(by omega)) ++ rowC f (ys.drop (i + 1)) := by
      rw [← rowC_one (f := f) (ys[i]'(by omega)), ← rowC_app, ← rowC_app, ← List.take_succ_eq_append_getElem (by omega), List.take_append_drop]
    rw [ey]
    have hy := hf.len (ys[i]'(by omega))
    rcases Nat.lt_or_ge q (i * k) with hlt2 | hge
    · rw [List.getElem?_append_left (by rw [List.length_append]; omega), List.getElem?_append_left (by omega), List.getElem?_append_left (by rw [List.length_append]; omega), List.getElem?_append_left (by omega)]
    · rw [List.getElem?_append_right (by rw [List.length_append]; omega), List.getElem?_append_right (by rw [List.length_append]; omega), List.length_append, List.length_append, hx, hy]

theorem keptL_take (t : Int) (xs : ML) (j : Nat) (hj : j < xs.length) : keptL t (xs.take (j + 1)) = keptL t (xs.take j) ++ (if old t xs[j] then [] else [xs[j]]) := by
  rw [List.take_succ_eq_append_getElem hj]
  unfold keptL
  rw [List.filter_append]
  cases h : old t xs[j] <;> simp [h]
theorem keptL_none (t : Int) (xs : ML) (h : ∀ x ∈ xs, old t x = false) : keptL t xs = xs := by
  unfold keptL
  exact List.filter_eq_self.2 (fun x hx => by rw [h x hx]; rfl)

section
variable {O : Nat → Prop} {w : World} {p : Nat} {a : Option Addr} {c : Nat} {g : Option Nat} {xs : ML}

set_option maxRecDepth 100000 in
set_option maxHeartbeats 2000000 in
theorem deleteFunc_val {n : Nat} (h : Cel O w 3 (.slice a n c) n (rowC agC xs) g) (hn : xs.length = n) (hle : n ≤ 1000) (T : Nat) (t : Int) (hT : w.cell? ⟨T, 0, none⟩ = some (.int .i64 t)) (hTg : g ≠ some T) (m : Nat) (hm : (keptL t xs).length = m) :
    Calls Try.prog 30 #[.slice a n c, .func (.func 31) #[] #[.pointer (some ⟨T, 0, none⟩)]] w fun e w' => e = .returned (.slice a m c) ∧ Cel O w' 3 (.slice a m c) m (rowC agC (keptL t xs)) g ∧ Stay (fun i => g = some i) w w' := by
  have CI : Hid _ := fun (_ : Unit) => index_val h hn hle T t hT
  have HC : Hid (Cel O w 3 (.slice a n c) n (rowC agC xs) g) := h
  have HN : Hid _ := hn
  have HT : Hid _ := hT
  have HTG : Hid (g ≠ some T) := hTg
  have HM : Hid _ := hm
  clear h hn hT hTg hm
  go_enter Try.func30, Try.ntmps30
  go_wp2_with fail
  refine (CI.out ()).mono ?_
  rintro e w1 ⟨q, rfl, hq, hb1⟩
  rcases hq with ⟨rfl, hall⟩ | ⟨k0, rfl, hk0, hold, hall⟩
  · have e1 : keptL t xs = xs := keptL_none t xs hall
    have e2 : m = n := by rw [← HM.out, e1]; exact HN.out
    subst e2
    have X : Hid (Cel O w1 3 (.slice a m c) m (rowC agC (keptL t xs)) g ∧ Stay (fun i => g = some i) w w1) := ⟨by rw [e1]; exact HC.out.below hb1, Stay.of_below hb1⟩
    clear hall hb1 e1
    go_wp2
    go_ret
    exact ⟨rfl, X.out⟩
  · have hk1 : k0 < n := by rw [← HN.out]; exact hk0
    obtain ⟨b, hab, hgb⟩ := HC.out.at2 (by omega)
    subst hab hgb
    have hneq : ((k0 : Int) == -1) = false := beq_eq_false_iff_ne.2 (by omega)
    have kst : keptL t (xs.take (k0 + 1)) = xs.take k0 := by rw [keptL_take t xs k0 hk0, hold, keptL_none t _ hall]; simp
    have S0 : Hid (Cel O w1 3 (.slice (some ⟨b, 0, none⟩) n c) n (rowC agC xs) (some b) ∧ xs.take k0 = keptL t (xs.take (k0 + 1)) ∧ Stay (fun i => some b = some i) w w1) := ⟨HC.out.below hb1, kst.symm, Stay.of_below hb1⟩
    clear hall hold kst hb1 CI
    go_wp2
    go_loopw [5, 6, 7] (fun v5 v6 _ wr => ∃ (i j : Nat) (ys : ML), i < j ∧ j ≤ n ∧ v5 = .int .i64 i ∧ v6 = .int .i64 j ∧ ys.length = n ∧ Cel O wr 3 (.slice (some ⟨b, 0, none⟩) n c) n (rowC agC ys) (some b) ∧ ys.take i = keptL t (xs.take j) ∧ ys.drop j = xs.drop j ∧ Stay (fun i => some b = some i) w wr) (fun _ v6 _ _ => n - (intOf v6).toNat)
    case atStart => exact ⟨k0, k0 + 1, xs, by omega, by omega, rfl, by go_num, HN.out, S0.out.1, S0.out.2.1, rfl, S0.out.2.2⟩
    case round =>
      obtain ⟨i, j, ys, hij, hjn, rfl, rfl, hyn, hC, hyt, hyd, hS⟩ := hrel
      have HC2 : Hid (Cel O wr 3 (.slice (some ⟨b, 0, none⟩) n c) n (rowC agC ys) (some b)) := hC
      have HYN : Hid _ := hyn
      have HYT : Hid _ := hyt
      have HYD : Hid _ := hyd
      have HS : Hid (Stay (fun i => some b = some i) w wr) := hS
      clear hyt hC hyn hyd hS S0
      by_cases hlt : j < n
      · have hjx : j < xs.length := by rw [HN.out]; exact hlt
        have hjy : j < ys.length := by rw [HYN.out]; exact hlt
        have exy : ys[j] = xs[j] := by
          have h1 : (ys.drop j)[0]? = (xs.drop j)[0]? := by rw [HYD.out]
          rw [List.getElem?_drop, List.getElem?_drop, Nat.add_zero, List.getElem?_eq_getElem hjy, List.getElem?_eq_getElem hjx] at h1
          exact Option.some.inj h1
        obtain ⟨b', hb', _, he⟩ := HC2.out.elem wideA hjy HYN.out
        cases hb'
        obtain ⟨xm, xa, hx⟩ : ∃ xm xa, xs[j] = (xm, xa) := ⟨_, _, rfl⟩
        rw [exy, hx] at he
        have e0 : wr.cell? ⟨b, j * 3, none⟩ = some (.int .i64 xm.t) := he 0 _ rfl
        have e1 : wr.cell? ⟨b, j * 3 + 1, none⟩ = some (.string xm.d) := he 1 _ rfl
        have e2 : wr.cell? ⟨b, j * 3 + 2, none⟩ = some (.int .i64 (xa : Int)) := he 2 _ rfl
        have hTw : wr.cell? ⟨T, 0, none⟩ = some (.int .i64 t) := HS.out.cellOut HT.out HTG.out
        have CD : Hid (∀ o v, old t (xm, xa) = v → Calls Try.prog 31 #[.agg #[.int .i64 xm.t, .string xm.d, .int .i64 (xa : Int)], .pointer (some ⟨T, 0, none⟩)] (wr.alloc o) fun e w' => e = .returned (.bool v) ∧ Below (wr.alloc o).heap.size (wr.alloc o) w') := fun o v hv => del_val xm xa T t v _ (cell_al hTw o) hv
        have hkt := keptL_take t xs j hjx
        rw [hx] at hkt
        have HKT : Hid _ := hkt
        have hd1 : ys.drop (j + 1) = xs.drop (j + 1) := by
          have : (ys.drop j).drop 1 = (xs.drop j).drop 1 := by rw [HYD.out]
          rwa [List.drop_drop, List.drop_drop] at this
        have HD1 : Hid _ := hd1
        have hst := run_store_str
        have AB : Hid (∀ o, Below wr.heap.size wr (wr.alloc o)) := fun o => (Below.refl _ wr).alloc (Nat.le_refl _) o
        clear he hTw hkt hd1 exy hx hjx hjy hk0
        cases hv : old t (xm, xa) with
        | true =>
          have HV : Hid _ := hv
          clear hv
          go_wp2_with (refine (CD.out _ true HV.out).mono ?_; rintro e w2 ⟨rfl, hb2⟩)
          have BB : Hid (Below wr.heap.size wr w2) := bel_tr (AB.out _) hb2
          go_roundw
          case rel => exact ⟨i, j + 1, ys, by omega, by omega, rfl, by go_num, HYN.out, HC2.out.below BB.out, by rw [HKT.out, HV.out, HYT.out]; simp, HD1.out, HS.out.then_below BB.out⟩
          case measure => simp [intOf]; omega
        | false =>
          have HV : Hid _ := hv
          clear hv
          have hin : i < n := by omega
          have hiy : i < ys.length := by rw [HYN.out]; exact hin
          have hcc := HC2.out.cap2.1
          have hstep : Hid (∀ w2, Below wr.heap.size wr w2 → (∃ v0 v1 v2, w2.cell? ⟨b, i * 3, none⟩ = some v0 ∧ w2.cell? ⟨b, i * 3 + 1, none⟩ = some v1 ∧ w2.cell? ⟨b, i * 3 + 2, none⟩ = some v2) ∧ w2.frozen? ⟨b, i * 3, none⟩ = false ∧ w2.frozen? ⟨b, i * 3 + 1, none⟩ = false ∧ w2.frozen? ⟨b, i * 3 + 2, none⟩ = false ∧
              Cel O (((w2.setCell ⟨b, i * 3, none⟩ (.int .i64 xm.t)).setCell ⟨b, i * 3 + 1, none⟩ (.string xm.d)).setCell ⟨b, i * 3 + 2, none⟩ (.int .i64 (xa : Int))) 3 (.slice (some ⟨b, 0, none⟩) n c) n (rowC agC (ys.set i (xm, xa))) (some b) ∧ Stay (fun i => some b = some i) w (((w2.setCell ⟨b, i * 3, none⟩ (.int .i64 xm.t)).setCell ⟨b, i * 3 + 1, none⟩ (.string xm.d)).setCell ⟨b, i * 3 + 2, none⟩ (.int .i64 (xa : Int)))) := fun w2 hb2 => by
            have hC3 := HC2.out.below hb2
            obtain ⟨b', hb', _, he⟩ := hC3.elem wideA hiy HYN.out
            cases hb'
            have l0 := hC3.live (i * 3) (by omega)
            have l1 := hC3.live (i * 3 + 1) (by omega)
            have l2 := hC3.live (i * 3 + 2) (by omega)
            exact ⟨⟨_, _, _, he 0 _ rfl, he 1 _ rfl, he 2 _ rfl⟩, l0.2, l1.2, l2.2, hC3.setElem wideA HYN.out i hin (xm, xa), (HS.out.then_below hb2).then_same (Stay.setCells (O := fun i => some b = some i) b (i * 3) (agC (xm, xa)) w2 rfl)⟩
          clear hcc
          go_wp2_with (refine (CD.out _ false HV.out).mono ?_; rintro e w2 ⟨rfl, hb2⟩; obtain ⟨⟨v0, v1, v2, q0, q1, q2⟩, f0, f1, f2, hX⟩ := hstep.out w2 (bel_tr (AB.out _) hb2); have X : Hid _ := hX; have z0 := bel_cell hb2 (World.cell?_alloc_new wr _ _ 0); have z1 := bel_cell hb2 (World.cell?_alloc_new wr _ _ 1); have z2 := bel_cell hb2 (World.cell?_alloc_new wr _ _ 2); clear hX hb2)
          go_roundw
          case rel =>
            refine ⟨i + 1, j + 1, ys.set i (xm, xa), by omega, by omega, by go_num, by go_num, by rw [List.length_set]; exact HYN.out, X.out.1, ?_, ?_, X.out.2⟩
            · rw [List.take_succ_eq_append_getElem (by rw [List.length_set]; exact hiy), List.getElem_set_self, List.take_set_of_le (Nat.le_refl _), HYT.out, HKT.out, HV.out]; simp
            · rw [List.drop_set_of_lt (by omega)]; exact HD1.out
          case measure => simp [intOf]; omega
      · obtain rfl : j = n := by omega
        have hcap := HC2.out.cap2.1
        obtain ⟨r, hr⟩ : ∃ r, j - i = r := ⟨_, rfl⟩
        have hkp : ys.take i = keptL t xs := by rw [HYT.out, List.take_of_length_le (by rw [HN.out]; omega)]
        have hmi : m = i := by rw [← HM.out, ← hkp, List.length_take, HYN.out]; omega
        have hnc : ¬ (c = i) := by omega
        have hgd : decide ((j : Int) < (j : Int)) = false := decide_eq_false (by omega)
        have hC3 := HC2.out.cut i (by omega)
        rw [rowC_take wideA ys i (by rw [HYN.out]; omega), hkp] at hC3
        have hcl : ∀ ty, (Builtin.clear_ #[51] ty #[.slice (some ⟨b, i * 3, none⟩) r (c - i)]).run Try.prog wr = .ok (.tuple #[]) (wr.setCells b (i * 3) (Builtin.zeroCells (Value.agg #[.int .i64 0, .string ⟨#[]⟩, .int .i64 0]).cells r).toList) := fun ty =>
          run_clear_cel wr 51 60 ty _ Try.underlying51 zeroAg zeroAg1 b (i * 3) r (c - i) (by omega) (fun q hq => (HC2.out.live _ (by have : q < r * 3 := hq; omega)).1) (fun q hq => (HC2.out.live _ (by have : q < r * 3 := hq; omega)).2)
        have hz : (Builtin.zeroCells (Value.agg #[.int .i64 0, .string ⟨#[]⟩, .int .i64 0]).cells r).toList.length = r * 3 := by rw [Array.length_toList, size_zeroCells]; rfl
        have hlk : (rowC agC (keptL t xs)).length = i * 3 := by rw [rowC_len wideA, HM.out, hmi]
        have hC4 : Cel O (wr.setCells b (i * 3) (Builtin.zeroCells (Value.agg #[.int .i64 0, .string ⟨#[]⟩, .int .i64 0]).cells r).toList) 3 (.slice (some ⟨b, 0, none⟩) i c) i (rowC agC (keptL t xs)) (some b) :=
          hC3.setCells _ _ (by omega) i _ (by omega) hlk (fun q hq => by rw [if_neg (by omega), List.getElem?_eq_getElem hq])
        have X : Hid _ := And.intro hC4 (HS.out.then_same (Stay.setCells (O := fun i => some b = some i) b (i * 3) (Builtin.zeroCells (Value.agg #[.int .i64 0, .string ⟨#[]⟩, .int .i64 0]).cells r).toList wr rfl))
        subst hmi
        generalize (Builtin.zeroCells (Value.agg #[.int .i64 0, .string ⟨#[]⟩, .int .i64 0]).cells r).toList = zs at *
        clear hC4 hC3 hz hlk hkp hlt
        go_wp2
        go_ret
        exact ⟨rfl, X.out⟩

end
end Go.Proofs.Ytgjbafpjllfdeaa
