/- The contract of tree.List. -/
import Derived.Test.YtlfehfajaelmlaaTreeF8
namespace Go.Proofs.Ytlfehfajaelmlaa
open Go.RowKit

def strC (s : ByteArray) : List Value := [.string s]
theorem wideS : Wide strC 1 := ⟨fun _ => rfl, fun x u hu => by simp [strC] at hu; subst hu; rfl⟩
theorem strRow : ∃ i, Try.prog.info? 9 = some i ∧ i.zero = some (.string ⟨#[]⟩) ∧ i.size = 1 ∧ i.bytes = 16 :=
  info_parts3 (show (Try.prog.info? 9).map (fun i => (i.zero, i.size, i.bytes)) = some (some (.string ⟨#[]⟩), 1, 16) by kernel_rfl)

theorem src_new1 (w : World) (s : ByteArray) : Src Try.prog 1 25 (.slice (some ⟨w.heap.size, 0, none⟩) 1 1) 1 (rowC strC [s]) (w.alloc (.cells #[.string s] 9)) := by
  refine Src.ofSlice _ Try.underlying25 ⟨w.heap.size, 0, none⟩ 1 1 _ (by rw [rowC_len wideS]; simp) (fun j u hu => ?_) (rowC_oneCell wideS _)
  rw [Addr.add_lit, Nat.zero_add]
  have e := World.cell?_alloc_new w #[.string s] 9 j
  refine e.trans ?_
  rw [rowC_one] at hu
  show (List.toArray (strC s))[j]? = some u
  rw [List.getElem?_toArray]; exact hu

theorem Cel.strs {O : Nat → Prop} {w : World} {a : Option Addr} {n c : Nat} {ss : List ByteArray} {g : Option Nat} (h : Cel O w 1 (.slice a n c) n (rowC strC ss) g) (hn : ss.length = n) (hs : ∀ s ∈ ss, s.size ≤ maxLen) : ∃ b, Strs w a b 0 ss := by
  obtain ⟨h1, h2, _⟩ := h.cap2
  by_cases h0 : n = 0
  · exact ⟨0, fun hp => by omega, fun j hj => by omega, hs, by omega⟩
  · obtain ⟨b, rfl, rfl⟩ := h.at2 (by omega)
    refine ⟨b, fun _ => rfl, fun j hj => ?_, hs, by omega⟩
    obtain ⟨b', e1, e2, e3⟩ := h.elem wideS hj hn
    cases e1
    have := e3 0 _ rfl
    rw [Nat.mul_one, Nat.add_zero] at this
    rw [Nat.zero_add]; exact this

/-- Names and an error are told. -/
structure NamesR (ss : List ByteArray) (E : Int) (e : Ending) (w' : World) : Prop where
  ex : ∃ a b n c, e = .returned (.tuple #[.slice a n c, .int .i64 E]) ∧ ss.length = n ∧ Strs w' a b 0 ss

theorem NamesR.no (E : Int) {e : Ending} {w' : World} (h : e = .returned (.tuple #[.slice none 0 0, .int .i64 E])) : NamesR [] E e w' :=
  ⟨none, 0, 0, 0, h, rfl, fun hp => by simp at hp, fun j hj => by simp at hj, by simp, by simp⟩

theorem nameN_small (p : ByteArray) : (nameN p).size ≤ maxLen := by
  unfold nameN
  obtain ⟨⟨d, n, E⟩, h⟩ : ∃ x, parentX p = x := ⟨_, rfl⟩
  rw [h]
  by_cases hE : E = 0
  · subst hE
    have := (parent_ok h).2.2.2.2.2.2
    show n.size ≤ maxLen
    unfold maxLen; omega
  · have : n = ⟨#[]⟩ := by
      unfold parentX at h
      split at h
      · split at h
        · cases h; rfl
        · cases h; exact absurd rfl hE
      · cases h; rfl
    rw [this]; exact Nat.zero_le _

set_option maxRecDepth 100000 in
theorem standsIn_val (p : ByteArray) (w : World) : Calls Try.prog 38 #[.string p] w fun e w' => e = .returned (.func (.func 52) #[] #[.pointer (some ⟨w.heap.size, 0, none⟩)]) ∧ w'.cell? ⟨w.heap.size, 0, none⟩ = some (.string p) ∧ Below w.heap.size w w' := by
  go_enter Try.func38, Try.ntmps38
  go_wp2
  go_ret
  exact ⟨rfl, World.cell?_alloc_new w _ _ 0, bel_al _ _⟩

set_option maxRecDepth 100000 in
set_option maxHeartbeats 2000000 in
theorem list_val {a : Option Addr} {n c : Nat} {xs : NS} {w : World} (h : NL w a n xs) (p : ByteArray) (hp : p.size ≤ maxLen) (E : Int) (hE : ListE xs p E) :
    Calls Try.prog 19 #[.slice a n c, .string p] w fun e w' => NamesR (listL xs p E) E e w' ∧ Below w.heap.size w w' := by
  have CR : Hid (∀ W u, Below w.heap.size w W → (u = true ↔ Right xs) → Calls Try.prog 16 #[.slice a n c] W fun e w' => e = .returned (.bool u) ∧ Below W.heap.size W w') := fun W u hb hu => right_val (h.below hb) u hu
  have CD : Hid (∀ W F, Below w.heap.size w W → dirE xs p = F → Calls Try.prog 37 #[.slice a n c, .string p] W fun e w' => e = .returned (.int .i64 F) ∧ Below W.heap.size W w') := fun W F hb hF => refuseDir_val (h.below hb) p F hF
  have HP : Hid (p.size ≤ maxLen) := hp
  have HLEN : Hid (xs.length = n) := by obtain ⟨_, _, _, _, k2, _⟩ := h.ex; exact k2
  have HNL : Hid (NL w a n xs) := h
  have hst := run_store_str
  clear h hp
  cases hE with
  | arg hn =>
    have hr : listL xs p 1 = [] := rfl
    rw [hr]
    by_cases h1 : Right xs
    · have H1 : Hid (true = true ↔ Right xs) := ⟨fun _ => h1, fun _ => rfl⟩
      have H2 : Hid _ := hn h1
      clear h1 hn
      go_enter Try.func19, Try.ntmps19
      go_wp2_with (first
        | (go_at_call 16; refine (CR.out _ true (Below.refl _ _) H1.out).mono ?_; rintro e w1 ⟨rfl, c1⟩; have cc : Hid _ := c1; clear c1)
        | (go_at_call 36; refine (isPath_val p false _ HP.out H2.out).mono ?_; rintro e w2 ⟨rfl, c2⟩; have cc2 : Hid _ := bel_tr cc.out c2; clear c2))
      go_ret2
      exact ⟨NamesR.no _ rfl, cc2.out⟩
    · have H1 : Hid (false = true ↔ Right xs) := ⟨fun e => (by cases e), fun e => absurd e h1⟩
      clear h1 hn
      go_enter Try.func19, Try.ntmps19
      go_wp2_with (go_at_call 16; refine (CR.out _ false (Below.refl _ _) H1.out).mono ?_; rintro e w1 ⟨rfl, c1⟩; have cc : Hid _ := c1; clear c1)
      go_ret2
      exact ⟨NamesR.no _ rfl, cc.out⟩
  | dir e h1 h2 h3 h4 =>
    have hr : listL xs p E = [] := if_neg h4
    rw [hr]
    have H1 : Hid (true = true ↔ Right xs) := ⟨fun _ => h1, fun _ => rfl⟩
    have H2 : Hid _ := h2
    have H3 : Hid (dirE xs p = E) := h3
    have h4b : (E != 0) = true := by simpa using h4
    clear h1 h2 h3 h4 hr
    go_enter Try.func19, Try.ntmps19
    go_wp2_with (first
      | (go_at_call 16; refine (CR.out _ true (Below.refl _ _) H1.out).mono ?_; rintro e w1 ⟨rfl, c1⟩; have cc : Hid _ := c1; clear c1)
      | (go_at_call 36; refine (isPath_val p true _ HP.out H2.out).mono ?_; rintro e w2 ⟨rfl, c2⟩; have cc2 : Hid _ := bel_tr cc.out c2; clear c2)
      | (go_at_call 37; refine (CD.out _ _ cc2.out H3.out).mono ?_; rintro e w3 ⟨rfl, c3⟩; have cc3 : Hid _ := bel_tr cc2.out c3; clear c3))
    go_ret2
    exact ⟨NamesR.no _ rfl, cc3.out⟩
  | ok h1 h2 h3 =>
    have hr : listL xs p 0 = namesL xs p := rfl
    rw [hr]
    have H1 : Hid (true = true ↔ Right xs) := ⟨fun _ => h1, fun _ => rfl⟩
    have H2 : Hid _ := h2
    have H3 : Hid (dirE xs p = 0) := h3
    have hn60 : n ≤ 60 := by rw [← HLEN.out]; exact h1.few
    have H8 : Hid (∀ x ∈ xs, x.bs.length ≤ 8) := h1.few8
    obtain ⟨ys, hys⟩ : ∃ ys, xs.filter (inB p) = ys := ⟨_, rfl⟩
    obtain ⟨m, hm⟩ : ∃ m, ys.length = m := ⟨_, rfl⟩
    have hm60 : m ≤ 60 := by
      have := List.length_filter_le (inB p) xs
      rw [hys, hm, HLEN.out] at this; omega
    have HNM : Hid (namesL xs p = ys.map (fun x => nameN x.path)) := by show _ = _; unfold namesL; rw [hys]
    have HM : Hid (ys.length = m) := hm
    have CC : Hid (∀ W T, Below w.heap.size w W → W.cell? ⟨T, 0, none⟩ = some (.string p) → Calls Try.prog 32 #[.slice a n c, .func (.func 52) #[] #[.pointer (some ⟨T, 0, none⟩)]] W fun e w' => ListR W.heap.size ys m e w' ∧ Below W.heap.size W w') := fun W T hb hc =>
      chosen_val (HNL.out.below hb) hn60 H8.out 52 #[.pointer (some ⟨T, 0, none⟩)] (inB p) (enters_of Try.func52 (by kernel_rfl) rfl) (fun W2 x hb2 hx => stands_val p T W2 (bel_cell hb2 hc) x hx) ys hys m hm
    obtain ⟨ti, hi1, hi2, hi3, hi4⟩ := strRow
    clear h1 h2 h3 hys hm hn60
    go_enter Try.func19, Try.ntmps19
    go_wp2_with (first
      | (go_at_call 16; refine (CR.out _ true (Below.refl _ _) H1.out).mono ?_; rintro e w1 ⟨rfl, c1⟩; have cc : Hid _ := c1; clear c1)
      | (go_at_call 36; refine (isPath_val p true _ HP.out H2.out).mono ?_; rintro e w2 ⟨rfl, c2⟩; have cc2 : Hid _ := bel_tr cc.out c2; clear c2)
      | (go_at_call 37; refine (CD.out _ _ cc2.out H3.out).mono ?_; rintro e w3 ⟨rfl, c3⟩; have cc3 : Hid _ := bel_tr cc2.out c3; clear c3)
      | (go_at_call 38; refine (standsIn_val p _).mono ?_; rintro e w4 ⟨rfl, tp, c4⟩; have TP : Hid _ := tp; have cc4 : Hid _ := bel_tr cc3.out c4; clear c4 tp)
      | (go_at_call 32; refine (CC.out _ _ cc4.out TP.out).mono ?_; rintro e w5 ⟨⟨a5, c5, rfl, hX⟩, d5⟩; have cc5 : Hid _ := bel_tr cc4.out d5; have HX : Hid (LX w4.heap.size w5 a5 m c5 ys) := hX; clear d5 hX))
    have HY : Hid (NL w5 a5 m ys) := HX.out.nl
    clear CC CR CD TP HX
    go_loopw [7, 9, 10, 11, 12, 32] (fun v7 _ _ _ _ v32 wr => ∃ (i : Nat) (fa : Option Addr) (fc : Nat) (g : Option Nat), i ≤ m ∧ v32 = .int .i64 i ∧ v7 = .slice fa i fc ∧ Cel (fun k => w5.heap.size ≤ k) wr 1 (.slice fa i fc) i (rowC strC ((ys.take i).map (fun x => nameN x.path))) g ∧ Below w5.heap.size w5 wr) (fun _ _ _ _ _ v32 _ => m - (intOf v32).toNat)
    case atStart => exact ⟨0, none, 0, none, by omega, rfl, rfl, .nil rfl rfl rfl, Below.refl _ _⟩
    case round =>
      obtain ⟨i, fa, fc, g, hi, rfl, rfl, hC, hb⟩ := hrel
      have HB : Hid (Below w5.heap.size w5 wr) := hb
      have HC : Hid (Cel (fun k => w5.heap.size ≤ k) wr 1 (.slice fa i fc) i (rowC strC ((ys.take i).map (fun x => nameN x.path))) g) := hC
      by_cases hlt : i < m
      · obtain ⟨b, off, ps, k1, k2, k3⟩ := (HY.out.below hb).ex
        have hip : i < ps.length := by rw [← List.length_map (f := (·.1)), k1, HM.out]; exact hlt
        have hiy : i < ys.length := by rw [HM.out]; exact hlt
        obtain ⟨e0, e1, e2, e3, e4⟩ := k3.at hip
        obtain rfl := k3.addr (by omega)
        have hsm := (k3.ok _ (List.getElem_mem hip)).small
        have ey : ps[i].1 = ys[i] := by subst k1; simp
        have hnx : rowC strC ((ys.take (i + 1)).map (fun x => nameN x.path)) = rowC strC ((ys.take i).map (fun x => nameN x.path)) ++ rowC strC [nameN ps[i].1.path] := by
          rw [List.take_succ_eq_append_getElem hiy, List.map_append, rowC_app, ey]; rfl
        have HNX : Hid _ := hnx
        clear hnx ey k1 k3 hb hC
        generalize ps[i] = x at *
        obtain ⟨⟨q, d, qu, bs, wb⟩, ⟨sa, sn, sc⟩⟩ := x
        simp only at e0 e1 e2 e3 e4 hsm HNX
        obtain ⟨⟨D, N, F⟩, hP⟩ : ∃ y, parentX q = y := ⟨_, rfl⟩
        have HPX : Hid (parentX q = (D, N, F)) := hP
        have hNN : nameN q = N := by unfold nameN; rw [hP]
        rw [hNN] at HNX
        have HSM : Hid (q.size ≤ maxLen) := hsm
        have hst2 : ∀ (w : World) (a : Addr) (x : Option Addr) (n c : Nat) (m : Mode), (store a (.slice x n c) m).run Try.prog w = stored Try.prog w a (.slice x n c) m := fun w a x n c m => run_store_any w a _ m rfl
        have HAP : Hid (∀ w6 o a2 c2 w7 g7, Below wr.heap.size wr w6 → Cel (Grow (fun k => w5.heap.size ≤ k) (w6.alloc o) w7) w7 1 (.slice a2 (i + 1) c2) (i + 1) (rowC strC ((ys.take i).map (fun x => nameN x.path)) ++ rowC strC [N]) g7 → Stay (fun k => g = some k) (w6.alloc o) w7 → Cel (fun k => w5.heap.size ≤ k) w7 1 (.slice a2 (i + 1) c2) (i + 1) (rowC strC ((ys.take (i + 1)).map (fun x => nameN x.path))) g7 ∧ Below w5.heap.size w5 w7) := fun w6 o a2 c2 w7 g7 B hC hS => by
          have B3 : Below wr.heap.size wr (w6.alloc o) := bel_tr B (bel_al _ _)
          have z0 := HB.out.size
          have z1 := B3.size
          rw [HNX.out]
          refine ⟨grow_base (by omega) (fun k hk => hk) hC, (HB.out.trans (B3.mono (by omega))).trans (hS.below (by omega) (fun k hk => ?_))⟩
          have := HC.out; rw [hk] at this; exact this.lt.2
        clear hP hNN hsm hip hiy k2
        go_wp2_with (first
          | (go_at_call 39; refine (parent_val q D N F _ HSM.out HPX.out).mono ?_; rintro e w6 ⟨rfl, c6⟩; have B6 : Hid (Below wr.heap.size wr w6) := bel_tr (bel_al _ _) c6; clear c6)
          | (at_builtin; refine wpList_append_cel _ rfl _ _ 25 25 rfl 9 ti _ 1 16 Try.underlying25 hi1 hi2 hi3 hi4 rfl (O := fun k => w5.heap.size ≤ k) _ i _ g rfl (HC.out.below (bel_tr B6.out (bel_al _ _))) _ 1 (rowC strC [N]) rfl (src_new1 w6 N) (by unfold maxLen; omega) (by omega) ?_; intro a7 c7 w7 g7 hC7 hS7 hf7; have HX : Hid _ := HAP.out w6 _ a7 c7 w7 g7 B6.out hC7 hS7; clear hC7 hS7 hf7))
        go_roundw
        case rel => exact ⟨i + 1, a7, c7, g7, by omega, by go_num, rfl, HX.out.1, HX.out.2⟩
        case measure => simp [intOf]; omega
      · obtain rfl : i = m := by omega
        have hgd : decide ((i : Int) < (i : Int)) = false := decide_eq_false (by omega)
        rw [List.take_of_length_le (by rw [HM.out]; omega), ← HNM.out] at hC
        obtain ⟨b, hS⟩ := hC.strs (by rw [HNM.out, List.length_map, HM.out]) (fun s hs => by
          rw [HNM.out] at hs
          obtain ⟨x, _, rfl⟩ := List.mem_map.1 hs
          exact nameN_small _)
        have HS : Hid (Strs wr fa b 0 (namesL xs p)) := hS
        have HL : Hid ((namesL xs p).length = i) := by show _ = _; rw [HNM.out, List.length_map, HM.out]
        clear hb hC hS hlt
        go_wp2
        go_ret2
        exact ⟨⟨fa, b, i, fc, rfl, HL.out, HS.out⟩, bel_tr cc5.out HB.out⟩

end Go.Proofs.Ytlfehfajaelmlaa
