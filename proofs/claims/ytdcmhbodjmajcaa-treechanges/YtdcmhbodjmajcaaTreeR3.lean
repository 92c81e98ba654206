/- The contract of tabulariumref07.List. -/
import Derived.Test.YtdcmhbodjmajcaaTreeR2
import Derived.Test.YtdcmhbodjmajcaaTreeT3
namespace Go.Proofs.Ytdcmhbodjmajcaa
open Go.RowKit

theorem wpList_append_celN {P : Program} (w : World) {ops : Array Oper} {rest : List Oper} {o : Oper} {a : Act} {Q : Exit → Act → World → Prop} (hgd : o.guard = none) (s x : Operand) (t tx : TypeId)
    (ho : o.op = .call { callee := .builtin .append, args := #[s, x], argTypes := #[t, tx] })
    (e : TypeId) (i : TypeInfo) (z : Value) (size bytes : Nat) (ht : P.underlying t = some (.slice e)) (hi : P.info? e = some i) (hz : i.zero = some z) (hsize : i.size = size) (hby : i.bytes = bytes) (hzs : z.cells.size = size)
    {O : Nat → Prop} (sl : Value) (n : Nat) (cs : List Value) (g : Option Nat) (hv : a.eval s = sl) (h : Cel O w size sl n cs g) (xv : Value) (m : Nat) (news : List Value) (hxv : a.eval x = xv) (hs : Src P size tx xv m news w) (hlen : n + m ≤ maxLen) (hlb : (n + m) * bytes ≤ 140737488355328) (N : Nat) (hN : n + m = N) (cs' : List Value) (hcs : cs ++ news = cs')
    (hK : ∀ a' c' w' g', Cel (Grow O w w') w' size (.slice a' N c') N cs' g' → Stay (fun k => g = some k) w w' → (∀ k, g' = some k → g = some k ∨ w.heap.size ≤ k) → wpList P ops Q rest (a.put o.dst (.slice a' N c')) w') : wpList P ops Q (o :: rest) a w := by
  subst hN hcs
  exact wpList_append_cel w hgd s x t tx ho e i z size bytes ht hi hz hsize hby hzs sl n cs g hv h xv m news hxv hs hlen hlb hK

theorem src_empty {P : Program} {size : Nat} {tx e' : TypeId} (hk : P.underlying tx = some (.slice e')) (w : World) (a : Option Addr) (c : Nat) : Src P size tx (.slice a 0 c) 0 [] w := by
  cases a with
  | none => exact Src.ofNil w hk c
  | some x => exact Src.ofSlice w hk x 0 c [] (by simp) (fun j u hu => by simp at hu) (fun u hu => by cases hu)

theorem stay_none {w w' : World} (h : Stay (fun k => (none : Option Nat) = some k) w w') : Below w.heap.size w w' := ⟨h.os, h.tape, h.output, h.size, fun _ hk => h.block _ hk (fun e => nomatch e)⟩

theorem names_take (xs : NS) (p : ByteArray) (k : Nat) (hk : k < xs.length) : namesL (xs.take (k + 1)) p = namesL (xs.take k) p ++ (if inB p xs[k] then [nameN xs[k].path] else []) := by
  unfold namesL
  rw [filter_take (inB p) xs k hk, List.map_append]
  congr 1
  split <;> rfl

set_option maxRecDepth 100000 in
set_option maxHeartbeats 4000000 in
theorem refList_val {a : Option Addr} {n c : Nat} {xs : NS} {w : World} (h : NL w a n xs) (p : ByteArray) (hp : p.size ≤ maxLen) (E : Int) (hE : ListE xs p E) :
    Calls Try.prog 11 #[.slice a n c, .string p] w fun e w' => NamesR (listL xs p E) E e w' ∧ Below w.heap.size w w' := by
  have CR : Hid (∀ W u, Below w.heap.size w W → (u = true ↔ Right xs) → Calls Try.prog 16 #[.slice a n c] W fun e w' => e = .returned (.bool u) ∧ Below W.heap.size W w') := fun W u hb hu => refRight_val (h.below hb) u hu
  have CF : Hid (∀ W I, Below w.heap.size w W → findI xs p = I → Calls Try.prog 18 #[.slice a n c, .string p] W fun e w' => e = .returned (.int .i64 I) ∧ Below W.heap.size W w') := fun W I hb hI => refFind_val (h.below hb) p I hI
  have HP : Hid (p.size ≤ maxLen) := hp
  have HLEN : Hid (xs.length = n) := by obtain ⟨_, _, _, _, k2, _⟩ := h.ex; exact k2
  have HNL : Hid (NL w a n xs) := h
  have hlid := h.lid
  unfold maxLen at hlid
  clear h hp
  cases hE with
  | arg hn =>
    have hr : listL xs p 1 = [] := rfl
    rw [hr]
    by_cases h1 : Right xs
    · have H1 : Hid (Right xs) := h1
      have H2 : Hid _ := hn h1
      clear h1 hn
      go_enter Try.func11, Try.ntmps11
      go_wp2_with (first
        | (go_at_call 16; refine (CR.out _ true (Below.refl _ _) ⟨fun _ => H1.out, fun _ => rfl⟩).mono ?_; rintro e w1 ⟨rfl, c1⟩; have cc : Hid _ := c1; clear c1)
        | (go_at_call 37; refine (refPath_val p false _ HP.out H2.out).mono ?_; rintro e w2 ⟨rfl, c2⟩; have cc2 : Hid _ := bel_tr cc.out c2; clear c2))
      go_ret2
      exact ⟨NamesR.no _ rfl, cc2.out⟩
    · have H1 : Hid (¬ Right xs) := h1
      have H2 : Hid (pathB p = pathB p) := rfl
      clear h1 hn
      obtain ⟨v, hv⟩ : ∃ v, pathB p = v := ⟨_, rfl⟩
      have HV : Hid _ := hv
      clear hv
      go_enter Try.func11, Try.ntmps11
      go_wp2_with (first
        | (go_at_call 16; refine (CR.out _ false (Below.refl _ _) ⟨fun e => (by cases e), fun e => absurd e H1.out⟩).mono ?_; rintro e w1 ⟨rfl, c1⟩; have cc : Hid _ := c1; clear c1)
        | (go_at_call 37; refine (refPath_val p v _ HP.out HV.out).mono ?_; rintro e w2 ⟨rfl, c2⟩; have cc2 : Hid _ := bel_tr cc.out c2; clear c2))
      go_ret2
      exact ⟨NamesR.no _ rfl, cc2.out⟩
  | dir e h1 h2 h3 h4 =>
    have hr : listL xs p E = [] := if_neg h4
    rw [hr]
    have H1 : Hid (Right xs) := h1
    have H2 : Hid _ := h2
    rcases findI_cases xs p with ⟨_, f2, f3⟩ | ⟨k, f1, f2, hk, f3⟩
    · have hE5 : E = 5 := h3.symm.trans f3
      subst hE5
      have HFI : Hid _ := f2
      clear h1 h2 h3 h4 f2 f3 hr
      go_enter Try.func11, Try.ntmps11
      go_wp2_with (first
        | (go_at_call 16; refine (CR.out _ true (Below.refl _ _) ⟨fun _ => H1.out, fun _ => rfl⟩).mono ?_; rintro e w1 ⟨rfl, c1⟩; have cc : Hid _ := c1; clear c1)
        | (go_at_call 37; refine (refPath_val p true _ HP.out H2.out).mono ?_; rintro e w2 ⟨rfl, c2⟩; have cc2 : Hid _ := bel_tr cc.out c2; clear c2)
        | (go_at_call 18; refine (CF.out _ _ cc2.out HFI.out).mono ?_; rintro e w3 ⟨rfl, c3⟩; have cc3 : Hid _ := bel_tr cc2.out c3; clear c3))
      go_ret2
      exact ⟨NamesR.no _ rfl, cc3.out⟩
    · have hkn : k < n := by rw [← HLEN.out]; exact hk
      obtain ⟨b, off, hab⟩ := HNL.out.addr (by omega)
      have HDC : Hid (w.cell? ⟨b, off + k * 5 + 1, none⟩ = some (.bool xs[k].dir)) := HNL.out.dir hab hk
      have hd : xs[k].dir = false := by
        cases hd : xs[k].dir with
        | false => rfl
        | true => rw [f3, hd] at h3; exact absurd h3.symm h4
      have hE7 : E = 7 := by rw [← h3, f3, hd]; rfl
      rw [hd] at HDC
      subst hE7
      subst hab
      have HFI : Hid _ := f2
      clear h1 h2 h3 h4 f1 f2 f3 hr hd
      go_enter Try.func11, Try.ntmps11
      go_wp2_with (first
        | (go_at_call 16; refine (CR.out _ true (Below.refl _ _) ⟨fun _ => H1.out, fun _ => rfl⟩).mono ?_; rintro e w1 ⟨rfl, c1⟩; have cc : Hid _ := c1; clear c1)
        | (go_at_call 37; refine (refPath_val p true _ HP.out H2.out).mono ?_; rintro e w2 ⟨rfl, c2⟩; have cc2 : Hid _ := bel_tr cc.out c2; clear c2)
        | (go_at_call 18; refine (CF.out _ _ cc2.out HFI.out).mono ?_; rintro e w3 ⟨rfl, c3⟩; have cc3 : Hid _ := bel_tr cc2.out c3; have dc := bel_cell cc3.out HDC.out; clear c3))
      go_ret2
      exact ⟨NamesR.no _ rfl, cc3.out⟩
  | ok h1 h2 h3 =>
    have hr : listL xs p 0 = namesL xs p := rfl
    rw [hr]
    have H1 : Hid (Right xs) := h1
    have H2 : Hid _ := h2
    have hn60 : n ≤ 60 := by rw [← HLEN.out]; exact h1.few
    have hn0 : 0 < n := by rw [← HLEN.out]; exact h1.pos
    rcases findI_cases xs p with ⟨_, f2, f3⟩ | ⟨k0, f1, f2, hk, f3⟩
    · rw [f3] at h3; cases h3
    have hkn : k0 < n := by rw [← HLEN.out]; exact hk
    obtain ⟨b, off, ps, k1, k2, k3⟩ := HNL.out.ex
    have hpl : ps.length = n := by rw [← k2, ← k1, List.length_map]
    obtain rfl := k3.addr (by omega)
    have HDC : Hid (w.cell? ⟨b, off + k0 * 5 + 1, none⟩ = some (.bool xs[k0].dir)) := HNL.out.dir rfl hk
    have hd : xs[k0].dir = true := by
      cases hd : xs[k0].dir with
      | true => rfl
      | false => rw [f3, hd] at h3; cases h3
    rw [hd] at HDC
    have HFI : Hid _ := f2
    have HAT : Hid (∀ W i (hi : i < xs.length), Below w.heap.size w W → W.cell? ⟨b, off + i * 5, none⟩ = some (.string xs[i].path)) := fun W i hi hb => by
      have hip : i < ps.length := by omega
      obtain ⟨e0, _⟩ := (k3.below hb).at hip
      have e : ps[i].1 = xs[i] := by subst k1; simp
      rw [e] at e0
      exact e0
    obtain ⟨ti, hi1, hi2, hi3, hi4⟩ := strRow
    have HN1 : Hid (namesL (xs.take 1) p = []) := by
      have hx0 : 0 < xs.length := by rw [HLEN.out]; omega
      have h5 := names_take xs p 0 hx0
      have h6 : inB p xs[0] = false := by
        rw [Bool.eq_false_iff]
        intro e
        obtain ⟨m, hm⟩ := inB_iff.1 e
        rw [h1.root hx0] at hm
        have := (parent_ok hm).2.2.1
        rw [root_split.1] at this
        have := congrArg List.length this
        rw [List.length_append, List.length_cons] at this
        simp at this
      rw [h6] at h5
      show namesL (xs.take (0 + 1)) p = []
      rw [h5]; rfl
    clear h1 h2 h3 f1 f2 f3 hr hd hpl k1 k2 k3
    go_enter Try.func11, Try.ntmps11
    go_wp2_with (first
      | (go_at_call 16; refine (CR.out _ true (Below.refl _ _) ⟨fun _ => H1.out, fun _ => rfl⟩).mono ?_; rintro e w1 ⟨rfl, c1⟩; have cc : Hid _ := c1; clear c1)
      | (go_at_call 37; refine (refPath_val p true _ HP.out H2.out).mono ?_; rintro e w2 ⟨rfl, c2⟩; have cc2 : Hid _ := bel_tr cc.out c2; clear c2)
      | (go_at_call 18; refine (CF.out _ _ cc2.out HFI.out).mono ?_; rintro e w3 ⟨rfl, c3⟩; have cc3 : Hid (Below w.heap.size w w3) := bel_tr cc2.out c3; have dc := bel_cell cc3.out HDC.out; clear c3))
    clear dc CR CF
    go_loopw [9, 10, 11, 12, 13, 14, 15] (fun v9 v10 _ _ _ _ _ wr => ∃ (k : Nat) (fa : Option Addr) (m fc : Nat) (ns : List ByteArray) (g : Option Nat), 1 ≤ k ∧ k ≤ n ∧ v10 = .int .i64 k ∧ v9 = .slice fa m fc ∧ ns.length = m ∧ namesL (xs.take k) p = ns ∧ Cel (fun k => w.heap.size ≤ k) wr 1 (.slice fa m fc) m (rowC strC ns) g ∧ (m = 0 → fa = none ∧ fc = 0) ∧ Below w.heap.size w wr) (fun _ v10 _ _ _ _ _ _ => n - (intOf v10).toNat)
    case atStart => exact ⟨1, none, 0, 0, [], none, by omega, by omega, rfl, rfl, rfl, HN1.out, .nil rfl rfl rfl, fun _ => ⟨rfl, rfl⟩, cc3.out⟩
    case round =>
      obtain ⟨k, fa, m, fc, ns, g, hk1, hkn2, rfl, rfl, hnm, hns, hC, hm0, hb⟩ := hrel
      rename World => wo
      have HB : Hid (Below w.heap.size w wo) := hb
      have HC : Hid (Cel (fun k => w.heap.size ≤ k) wo 1 (.slice fa m fc) m (rowC strC ns) g) := hC
      have HNS : Hid (namesL (xs.take k) p = ns) := hns
      have HNM : Hid (ns.length = m) := hnm
      by_cases hlt : k < n
      · have hkx : k < xs.length := by rw [HLEN.out]; exact hlt
        have z0 := HAT.out wo k hkx hb
        have hmem : xs[k] ∈ xs := List.getElem_mem hkx
        have hsp := fits_path (H1.out.fit _ hmem)
        have hnr : xs[k].path ≠ rootP := by
          intro e
          have h5 := right_asc H1.out
          unfold Asc at h5
          rw [List.pairwise_iff_getElem] at h5
          have h6 := h5 0 k (by rw [HLEN.out]; omega) hkx (by omega)
          rw [H1.out.root (by rw [HLEN.out]; omega), e, ltB_irrefl] at h6
          cases h6
        obtain ⟨D, N, hPX, _, hNm, _⟩ := par_ex hsp hnr
        have hsm : xs[k].path.size ≤ maxLen := HNL.out.small _ hmem
        have hnt := names_take xs p k hkx
        rw [HNS.out, hNm] at hnt
        have hin : inB p xs[k] = decide (D = p) := by
          unfold inB parD
          rw [hPX]; simp
        rw [hin] at hnt
        have hasc : (namesL (xs.take (k + 1)) p).Pairwise (fun a b => ltB a b = true) := names_asc (List.Pairwise.take (right_asc H1.out)) p
        have HNsmall : Hid (N.size ≤ maxLen) := by show N.size ≤ maxLen; rw [← hNm]; exact nameN_small _
        have hm60 : m ≤ 60 := by
          rw [← hnm, ← hns]
          unfold namesL
          rw [List.length_map]
          have h7 := List.length_filter_le (inB p) (xs.take k)
          rw [List.length_take] at h7
          omega
        have HPX : Hid _ := hPX
        have HSM : Hid _ := hsm
        have HNT : Hid _ := hnt
        have se := same_eq D p
        clear hPX hsm hin hsp hnr hmem hnm hns hC hNm hb
        generalize xs[k].path = q at *
        cases hv : decide (D = p) with
        | false =>
          rw [hv] at se HNT
          have sb : (D.toList != p.toList) = true := by rw [bne, se]; rfl
          clear hv hnt hasc
          go_wp2_with (go_at_call 38; refine (refParent_val q D N 0 _ HSM.out HPX.out).mono ?_; rintro e w4 ⟨rfl, c4⟩; have C4 : Hid (Below wo.heap.size wo w4) := c4; clear c4)
          go_roundw
          case rel => exact ⟨k + 1, fa, m, fc, ns, g, by omega, by omega, by go_num, rfl, HNM.out, by rw [HNT.out]; simp, HC.out.below C4.out, hm0, bel_tr HB.out C4.out⟩
          case measure => simp [intOf]; omega
        | true =>
          rw [hv] at se HNT hnt
          have sb : (D.toList != p.toList) = false := by rw [bne, se]; rfl
          simp only [if_true] at hnt
          rw [hnt] at hasc
          have HNEW : Hid (namesL (xs.take (k + 1)) p = ns ++ [N]) := hnt
          have HFIN : Hid (∀ W w5 w6 w7 o a5 c5 g5 a6 c6 g6 a7 c7 g7, Below wo.heap.size wo W → Cel (Grow (fun k => w.heap.size ≤ k) W w5) w5 1 (.slice a5 m c5) m (rowC strC ns) g5 → Stay (fun k => none = some k) W w5 → Cel (Grow (fun k => w.heap.size ≤ k) (w5.alloc o) w6) w6 1 (.slice a6 (m + 1) c6) (m + 1) (rowC strC (ns ++ [N])) g6 → Stay (fun k => g5 = some k) (w5.alloc o) w6 → Cel (Grow (fun k => w.heap.size ≤ k) w6 w7) w7 1 (.slice a7 (m + 1) c7) (m + 1) (rowC strC (ns ++ [N])) g7 → Stay (fun k => g6 = some k) w6 w7 → Cel (fun k => w.heap.size ≤ k) w7 1 (.slice a7 (m + 1) c7) (m + 1) (rowC strC (ns ++ [N])) g7 ∧ Below w.heap.size w w7) := fun W w5 w6 w7 o a5 c5 g5 a6 c6 g6 a7 c7 g7 hW hC5 hS5 hC6 hS6 hC7 hS7 => by
            have bW : Below w.heap.size w W := bel_tr HB.out hW
            have s0 := bW.size
            have b5 : Below w.heap.size w w5 := bW.trans ((stay_none hS5).mono s0)
            have s5 := b5.size
            have C5 := grow_base (base := w.heap.size) s0 (fun k hk => hk) hC5
            have s5o : w.heap.size ≤ (w5.alloc o).heap.size := by simp; omega
            have C6 := grow_base (base := w.heap.size) s5o (fun k hk => hk) hC6
            have b6 : Below w.heap.size w w6 := (b5.alloc s5 o).trans (hS6.below s5o (fun k hk => by rw [hk] at C5; exact C5.lt.2))
            have s6 := b6.size
            refine ⟨grow_base s6 (fun k hk => hk) hC7, b6.trans (hS7.below s6 (fun k hk => by rw [hk] at C6; exact C6.lt.2))⟩
          clear hv hnt
          rcases Nat.eq_zero_or_pos m with hmz | hmp
          · obtain ⟨rfl, rfl⟩ := hm0 hmz
            subst hmz
            have hns0 : ns = [] := List.length_eq_zero_iff.1 HNM.out
            subst hns0
            clear hasc hm0
            have M1 : True := trivial
            have M2 : True := trivial
            have M3 : True := trivial
            go_wp2_with (go_at_call 38; refine (refParent_val q D N 0 _ HSM.out HPX.out).mono ?_; rintro e w4 ⟨rfl, c4⟩; have C4 : Hid (Below wo.heap.size wo w4) := c4; clear c4)
            go_loopw [14] (fun v14 wr => v14 = .int .i64 0 ∧ wr = w4) (fun _ _ => 0)
            case atStart => exact ⟨rfl, rfl⟩
            case round =>
              obtain ⟨rfl, rfl⟩ := hrel
              go_wp2_with (first
                | (at_builtin; clear M1; refine wpList_append_celN _ rfl _ _ 27 27 rfl 9 ti _ 1 16 Try.underlying27 hi1 hi2 hi3 hi4 rfl (O := fun k => w.heap.size ≤ k) _ 0 [] none rfl (.nil rfl rfl rfl) _ 0 [] rfl (src_empty Try.underlying27 _ _ _) (by unfold maxLen; omega) (by omega) 0 rfl (rowC strC []) rfl ?_; intro a5 c5 w5 g5 hC5 hS5 hf5; have HC5 : Hid _ := hC5; have HS5 : Hid _ := hS5; clear hC5 hS5 hf5)
                | (at_builtin; clear M2; refine wpList_append_celN _ rfl _ _ 27 27 rfl 9 ti _ 1 16 Try.underlying27 hi1 hi2 hi3 hi4 rfl (O := fun k => w.heap.size ≤ k) _ 0 (rowC strC []) g5 rfl ((grow_base (base := w.heap.size) (bel_tr HB.out C4.out).size (fun k hk => hk) HC5.out).below (bel_al _ _)) _ 1 (rowC strC [N]) rfl (src_new1 w5 N) (by unfold maxLen; omega) (by omega) 1 rfl (rowC strC ([] ++ [N])) rfl ?_; intro a6 c6 w6 g6 hC6 hS6 hf6; have HC6 : Hid _ := hC6; have HS6 : Hid _ := hS6; clear hC6 hS6 hf6)
                | (at_builtin; clear M3; refine wpList_append_celN _ rfl _ _ 27 27 rfl 9 ti _ 1 16 Try.underlying27 hi1 hi2 hi3 hi4 rfl (O := fun k => w.heap.size ≤ k) _ 1 (rowC strC ([] ++ [N])) g6 rfl (HC6.out.stay (Nat.le_refl _) (fun _ _ => rfl) (fun k hk => hk.elim id (fun e => by have h9 := (grow_base (base := w.heap.size) (bel_tr HB.out C4.out).size (fun k hk => hk) HC5.out); have h8 := (bel_tr HB.out C4.out).size; have h7 := HS5.out.size; have := e.1; simp at this; omega))) _ 0 [] rfl (src_empty Try.underlying27 _ _ _) (by unfold maxLen; omega) (by omega) 1 rfl (rowC strC ([] ++ [N])) (by simp) ?_; intro a7 c7 w7 g7 hC7 hS7 hf7; have HX7 : Hid _ := HFIN.out _ w5 w6 w7 _ a5 c5 g5 a6 c6 g6 a7 c7 g7 C4.out HC5.out HS5.out HC6.out HS6.out hC7 hS7; clear hC7 hS7 hf7))
              go_roundw
              case rel => exact ⟨k + 1, a7, 1, c7, [N], g7, by omega, by omega, by go_num, rfl, rfl, HNEW.out, HX7.out.1, fun h => by omega, HX7.out.2⟩
              case measure => simp [intOf]; omega
          · obtain ⟨gb, hfa, hgb⟩ := HC.out.at2 hmp
            subst hfa hgb
            obtain ⟨m1, hm1⟩ : ∃ m1, m = m1 + 1 := ⟨m - 1, by omega⟩
            have hm1i : (m : Int) - 1 = (m1 : Int) := by omega
            have hm1n : m1 < m := by omega
            have hlast : m1 < ns.length := by rw [HNM.out]; omega
            have d0 : decide ((0 : Int) < (m : Int)) = true := decide_eq_true (by omega)
            have d1 : decide (0 < m) = true := decide_eq_true (by omega)
            have hl : ltB ns[m1] N = true := by
              rw [List.pairwise_append] at hasc
              exact hasc.2.2 _ (List.getElem_mem hlast) N (by simp)
            have g1 : Op.bytesLess ns[m1].toList N.toList = true := hl
            have HLC : Hid (wo.cell? ⟨gb, m1, none⟩ = some (.string ns[m1])) := by
              obtain ⟨b', e1, e2, e3⟩ := HC.out.elem wideS hlast HNM.out
              cases e1
              have := e3 0 _ rfl
              rw [Nat.mul_one, Nat.add_zero] at this
              exact this
            have hcap := HC.out.cap2.1
            have HSR : Hid (∀ W, Below wo.heap.size wo W → Src Try.prog 1 27 (.slice (some ⟨gb, 0, none⟩) m fc) m (rowC strC ns) W) := fun W hb => by
              have := src_firstC Try.underlying27 wideS (HC.out.below hb) HNM.out m (Nat.le_refl _)
              rwa [List.take_of_length_le (by rw [HNM.out]; omega)] at this
            clear hasc hm0 hl hm1
            generalize ns[m1] = last at *
            have M1 : True := trivial
            have M2 : True := trivial
            have M3 : True := trivial
            go_wp2_with (go_at_call 38; refine (refParent_val q D N 0 _ HSM.out HPX.out).mono ?_; rintro e w4 ⟨rfl, c4⟩; have C4 : Hid (Below wo.heap.size wo w4) := c4; have lc := bel_cell c4 HLC.out; clear c4)
            go_loopw [14] (fun v14 wr => v14 = .int .i64 m ∧ wr = w4) (fun _ _ => 0)
            case atStart => exact ⟨rfl, rfl⟩
            case round =>
              obtain ⟨rfl, rfl⟩ := hrel
              go_wp2_with (first
                | (at_builtin; clear M1; refine wpList_append_celN _ rfl _ _ 27 27 rfl 9 ti _ 1 16 Try.underlying27 hi1 hi2 hi3 hi4 rfl (O := fun k => w.heap.size ≤ k) _ 0 [] none rfl (.nil rfl rfl rfl) _ m (rowC strC ns) rfl (HSR.out _ C4.out) (by unfold maxLen; omega) (by omega) m (Nat.zero_add m) (rowC strC ns) rfl ?_; intro a5 c5 w5 g5 hC5 hS5 hf5; have HC5 : Hid _ := hC5; have HS5 : Hid _ := hS5; clear hC5 hS5 hf5)
                | (at_builtin; clear M2; refine wpList_append_celN _ rfl _ _ 27 27 rfl 9 ti _ 1 16 Try.underlying27 hi1 hi2 hi3 hi4 rfl (O := fun k => w.heap.size ≤ k) _ m (rowC strC ns) g5 rfl ((grow_base (base := w.heap.size) (bel_tr HB.out C4.out).size (fun k hk => hk) HC5.out).below (bel_al _ _)) _ 1 (rowC strC [N]) rfl (src_new1 w5 N) (by unfold maxLen; omega) (by omega) (m + 1) rfl (rowC strC (ns ++ [N])) (rowC_app ns [N]).symm ?_; intro a6 c6 w6 g6 hC6 hS6 hf6; have HC6 : Hid _ := hC6; have HS6 : Hid _ := hS6; clear hC6 hS6 hf6)
                | (at_builtin; clear M3; refine wpList_append_celN _ rfl _ _ 27 27 rfl 9 ti _ 1 16 Try.underlying27 hi1 hi2 hi3 hi4 rfl (O := fun k => w.heap.size ≤ k) _ (m + 1) (rowC strC (ns ++ [N])) g6 rfl (HC6.out.stay (Nat.le_refl _) (fun _ _ => rfl) (fun k hk => hk.elim id (fun e => by have h8 := (bel_tr HB.out C4.out).size; have h7 := HS5.out.size; have := e.1; simp at this; omega))) _ 0 [] rfl (src_empty Try.underlying27 _ _ _) (by unfold maxLen; omega) (by omega) (m + 1) rfl (rowC strC (ns ++ [N])) (List.append_nil _) ?_; intro a7 c7 w7 g7 hC7 hS7 hf7; have HX7 : Hid _ := HFIN.out _ w5 w6 w7 _ a5 c5 g5 a6 c6 g6 a7 c7 g7 C4.out HC5.out HS5.out HC6.out HS6.out hC7 hS7; clear hC7 hS7 hf7))
              all_goals
                go_roundw
                case rel => exact ⟨k + 1, a7, m + 1, c7, ns ++ [N], g7, by omega, by omega, by go_num, rfl, by rw [List.length_append, HNM.out]; rfl, HNEW.out, HX7.out.1, fun h => by omega, HX7.out.2⟩
                case measure => simp [intOf]; omega
      · obtain rfl : k = n := by omega
        have hgd : decide ((k : Int) < (k : Int)) = false := decide_eq_false (by omega)
        rw [List.take_of_length_le (by rw [HLEN.out]; omega)] at hns
        subst hns
        obtain ⟨bb, hS⟩ := hC.strs hnm (fun s hs => by
          unfold namesL at hs
          obtain ⟨x, _, rfl⟩ := List.mem_map.1 hs
          exact nameN_small _)
        have HS : Hid (Strs wo fa bb 0 (namesL xs p)) := hS
        clear hb hC hS hlt hnm
        go_wp2
        go_ret2
        exact ⟨⟨fa, bb, m, fc, rfl, HNM.out, HS.out⟩, HB.out⟩

end Go.Proofs.Ytdcmhbodjmajcaa
