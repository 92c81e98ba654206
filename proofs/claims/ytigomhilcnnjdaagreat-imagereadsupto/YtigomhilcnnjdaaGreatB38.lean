/- Part 38 of the proof: ImageF1, ImageR1, ImageF2. -/
import Derived.Test.YtigomhilcnnjdaaGreatB03
import Derived.Test.YtigomhilcnnjdaaGreatB16
import Derived.Test.YtigomhilcnnjdaaGreatB28
import Derived.Test.YtigomhilcnnjdaaGreatB30
import Derived.Test.YtigomhilcnnjdaaGreatB37
import Derived.Deep.RegionHeld3

/- The contracts of image.numbers, sealed, headPart, leasePart and nodePart. -/
namespace Go.Proofs.YtigomhilcnnjdaaGreat.Img
open Go.RowKit Go.Proofs.YtigomhilcnnjdaaGreat Go.Proofs.YtigomhilcnnjdaaGreat.Smm
open Go.Proofs.YtigomhilcnnjdaaGreat.Spa (Sp RtS zeroS newS rootN spV SpIn)
open Go.Proofs.YtigomhilcnnjdaaGreat.Lea (LS Ls LL)
open Go.Proofs.YtigomhilcnnjdaaGreat.Edi (numsB numsB_len numsB_take Nm BO bel_tr bel_al bel_cell)
open Go.Proofs.YtigomhilcnnjdaaGreat.Wir (textB textB_data app_list app_size size_list mk_size numB_len numB_prefix num_val text_yes)
open Go.WideShapes (bytes_inj)

set_option maxRecDepth 100000 in
set_option maxHeartbeats 1000000 in
theorem numbers_val {a : Option Addr} {m q : Nat} {zs : List Int} {w : World} (h : Nm w a m zs) (h8 : m ≤ 8) (hr : ∀ z ∈ zs, -9223372036854775808 ≤ z ∧ z ≤ 9223372036854775807) (l : List UInt8) (hl : numsB zs = l) :
    Calls Tryz.prog 43 #[.slice a m q] w fun e w' => e = .returned (.string ⟨l.toArray⟩) ∧ Below w.heap.size w w' := by
  obtain ⟨i0, hi, hz0, hz1, hz2⟩ := info_parts Wir.Tryz.infoByte
  have HN : Hid (zs.length = m) := h.len
  have HC : Hid _ := h
  have HR : Hid (∀ z ∈ zs, -9223372036854775808 ≤ z ∧ z ≤ 9223372036854775807) := hr
  have HL : Hid (numsB zs = l) := hl
  clear h hr hl
  go_enter Tryz.func43, Tryz.ntmps43
  go_wp2
  go_loopw [3, 8] (fun v c wr => ∃ (i : Nat) (fa : Option Addr) (fn fc : Nat) (g : Option Nat), i ≤ m ∧ c = .int .i64 i ∧ v = .slice fa fn fc ∧ BO w.heap.size wr fa fn fc (numsB (zs.take i)) g ∧ Below w.heap.size w wr) (fun _ c _ => m - (intOf c).toNat)
  case atStart => exact ⟨0, none, 0, 0, none, by omega, rfl, rfl, BO.none _ _, Below.refl _ _⟩
  case round =>
    obtain ⟨i, fa, fn, fc, g, hil, rfl, rfl, hO, hb⟩ := hrel
    have HB : Hid (Below w.heap.size w wr) := hb
    have HO : Hid (BO w.heap.size wr fa fn fc (numsB (zs.take i)) g) := hO
    by_cases hlt : i < m
    · have hix : i < zs.length := by rw [HN.out]; exact hlt
      obtain ⟨b, off, rfl, hat⟩ := (HC.out.below hb).at (by omega)
      have e0 := hat i hix
      have hfn : fn ≤ 80 := by
        have h1 := hO.len
        have h2 := numsB_len (zs.take i) (fun z hz => HR.out z (List.mem_of_mem_take hz))
        rw [List.length_take] at h2
        omega
      have HT : Hid (numsB (zs.take (i + 1)) = numsB (zs.take i) ++ Wir.numB zs[i]) := numsB_take zs i hix
      have hzr := HR.out zs[i] (List.getElem_mem hix)
      have hz10 := numB_len hzr.1 hzr.2
      have hz0' := hzr.1
      have hz1' := hzr.2
      clear hO hb hat hzr
      generalize zs[i] = z at *
      generalize hnb : Wir.numB z = nb at *
      have HNB : Hid (Wir.numB z = nb) := hnb
      obtain ⟨nl, hnl⟩ : ∃ nl, nb.length = nl := ⟨_, rfl⟩
      have HNL : Hid (nb.length = nl) := hnl
      rw [hnl] at hz10
      have HSZ : Hid ((⟨nb.toArray⟩ : ByteArray).size = nl) := by show (_ : Nat) = _; rw [mk_size]; exact hnl
      clear hnb hnl
      go_wp2_with (first
        | (go_at_call 66; refine (num_val z nb _ hz0' hz1' HNB.out).mono ?_; rintro e w1 ⟨rfl, b1⟩; have HB1 : Hid (Below w.heap.size w w1) := bel_tr HB.out b1; have HO1 : Hid (BO w.heap.size w1 fa fn fc (numsB (zs.take i)) g) := HO.out.below b1; clear b1)
        | (at_builtin; refine wpList_append_cel _ rfl _ _ 50 9 rfl 5 i0 _ 1 1 Tryz.underlying50 hi hz0 hz1 hz2 rfl (O := fun k => w.heap.size ≤ k) _ fn _ g rfl HO1.out.cel _ nl (byteCells ⟨nb.toArray⟩) rfl (by have hs := Src.ofString (P := Tryz.prog) w1 Tryz.underlying9 ⟨nb.toArray⟩; rw [HSZ.out] at hs; exact hs) (by unfold maxLen; omega) (by omega) ?_; intro a2 c2 w2 g2 hC2 hS2 hg2; have A2 : Hid _ := HO1.out.app HNL.out hC2 HB1.out.size; have B2 : Hid _ := HO1.out.appBelow hS2 HB1.out.size; clear hC2 hS2 hg2))
      go_roundw
      case rel => exact ⟨i + 1, a2, fn + nl, c2, g2, by omega, by go_num, rfl, by rw [HT.out]; exact A2.out, HB1.out.trans B2.out⟩
      case measure => simp [intOf]; omega
    · obtain rfl : i = m := by omega
      have hgd : decide ((i : Int) < (i : Int)) = false := decide_eq_false (by omega)
      rw [List.take_of_length_le (by rw [HN.out]; omega), HL.out] at hO
      have hcv := hO.text
      clear hb hlt hO HO
      go_wp2
      go_ret
      exact ⟨rfl, HB.out⟩


theorem inums (zs : List Int) (X : ByteArray) (hr : ∀ z ∈ zs, I64 z) (hX : mk (numsB zs) = X) (n : Nat) (hn : zs.length = n) (h8 : n ≤ 8) (b : Nat) (w : World) (hc : ∀ j (hj : j < zs.length), w.cell? ⟨b, j, none⟩ = some (.int .i64 zs[j])) :
    Calls Tryz.prog 43 #[.slice (some ⟨b, 0, none⟩) n n] w fun e w' => e = .returned (.string X) ∧ Below w.heap.size w w' := by
  have h : Nm w (some ⟨b, 0, none⟩) n zs := ⟨hn, by unfold maxLen; omega, fun _ => ⟨b, 0, rfl, fun j hj => by rw [Nat.zero_add]; exact hc j hj⟩⟩
  rw [← hX]
  exact numbers_val h h8 hr _ rfl
theorem inums2 (z0 z1 : Int) (X : ByteArray) (hr : ∀ z ∈ [z0, z1], I64 z) (hX : mk (numsB [z0, z1]) = X) (t : TypeId) (w : World) :
    Calls Tryz.prog 43 #[.slice (some ⟨w.heap.size, 0, none⟩) 2 2] (w.alloc (.cells #[.int .i64 z0, .int .i64 z1] t)) fun e w' => e = .returned (.string X) ∧ Below w.heap.size w w' :=
  (inums [z0, z1] X hr hX 2 rfl (by omega) _ _ (fun j hj => by
    rw [World.cell?_alloc_new]
    match j, hj with
    | 0, _ => rfl
    | 1, _ => rfl)).mono fun _ _ h => ⟨h.1, bel_tr (bel_al _ _) h.2⟩
theorem inums3 (z0 z1 z2 : Int) (X : ByteArray) (hr : ∀ z ∈ [z0, z1, z2], I64 z) (hX : mk (numsB [z0, z1, z2]) = X) (t : TypeId) (w : World) :
    Calls Tryz.prog 43 #[.slice (some ⟨w.heap.size, 0, none⟩) 3 3] (w.alloc (.cells #[.int .i64 z0, .int .i64 z1, .int .i64 z2] t)) fun e w' => e = .returned (.string X) ∧ Below w.heap.size w w' :=
  (inums [z0, z1, z2] X hr hX 3 rfl (by omega) _ _ (fun j hj => by
    rw [World.cell?_alloc_new]
    match j, hj with
    | 0, _ => rfl
    | 1, _ => rfl
    | 2, _ => rfl)).mono fun _ _ h => ⟨h.1, bel_tr (bel_al _ _) h.2⟩
theorem inums4 (z0 z1 z2 z3 : Int) (X : ByteArray) (hr : ∀ z ∈ [z0, z1, z2, z3], I64 z) (hX : mk (numsB [z0, z1, z2, z3]) = X) (t : TypeId) (w : World) :
    Calls Tryz.prog 43 #[.slice (some ⟨w.heap.size, 0, none⟩) 4 4] (w.alloc (.cells #[.int .i64 z0, .int .i64 z1, .int .i64 z2, .int .i64 z3] t)) fun e w' => e = .returned (.string X) ∧ Below w.heap.size w w' :=
  (inums [z0, z1, z2, z3] X hr hX 4 rfl (by omega) _ _ (fun j hj => by
    rw [World.cell?_alloc_new]
    match j, hj with
    | 0, _ => rfl
    | 1, _ => rfl
    | 2, _ => rfl
    | 3, _ => rfl)).mono fun _ _ h => ⟨h.1, bel_tr (bel_al _ _) h.2⟩
theorem inums6 (z0 z1 z2 z3 z4 z5 : Int) (X : ByteArray) (hr : ∀ z ∈ [z0, z1, z2, z3, z4, z5], I64 z) (hX : mk (numsB [z0, z1, z2, z3, z4, z5]) = X) (t : TypeId) (w : World) :
    Calls Tryz.prog 43 #[.slice (some ⟨w.heap.size, 0, none⟩) 6 6] (w.alloc (.cells #[.int .i64 z0, .int .i64 z1, .int .i64 z2, .int .i64 z3, .int .i64 z4, .int .i64 z5] t)) fun e w' => e = .returned (.string X) ∧ Below w.heap.size w w' :=
  (inums [z0, z1, z2, z3, z4, z5] X hr hX 6 rfl (by omega) _ _ (fun j hj => by
    rw [World.cell?_alloc_new]
    match j, hj with
    | 0, _ => rfl
    | 1, _ => rfl
    | 2, _ => rfl
    | 3, _ => rfl
    | 4, _ => rfl
    | 5, _ => rfl)).mono fun _ _ h => ⟨h.1, bel_tr (bel_al _ _) h.2⟩

theorem cell_al2 (w : World) (o : Obj) (cs : Array Value) (t : TypeId) (j : Nat) : ((w.alloc o).alloc (.cells cs t)).cell? ⟨w.heap.size + 1, j, none⟩ = cs[j]? := by
  have h := World.cell?_alloc_new (w.alloc o) cs t j
  rwa [show (w.alloc o).heap.size = w.heap.size + 1 by simp] at h
theorem inumsB2 (z0 z1 : Int) (X : ByteArray) (hr : ∀ z ∈ [z0, z1], I64 z) (hX : mk (numsB [z0, z1]) = X) (t : TypeId) (o : Obj) (w : World) :
    Calls Tryz.prog 43 #[.slice (some ⟨w.heap.size + 1, 0, none⟩) 2 2] ((w.alloc o).alloc (.cells #[.int .i64 z0, .int .i64 z1] t)) fun e w' => e = .returned (.string X) ∧ Below w.heap.size w w' :=
  (inums [z0, z1] X hr hX 2 rfl (by omega) _ _ (fun j hj => by
    rw [cell_al2]
    match j, hj with
    | 0, _ => rfl
    | 1, _ => rfl)).mono fun _ _ h => ⟨h.1, bel_tr (bel_tr (bel_al _ _) (bel_al _ _)) h.2⟩
theorem inumsB3 (z0 z1 z2 : Int) (X : ByteArray) (hr : ∀ z ∈ [z0, z1, z2], I64 z) (hX : mk (numsB [z0, z1, z2]) = X) (t : TypeId) (o : Obj) (w : World) :
    Calls Tryz.prog 43 #[.slice (some ⟨w.heap.size + 1, 0, none⟩) 3 3] ((w.alloc o).alloc (.cells #[.int .i64 z0, .int .i64 z1, .int .i64 z2] t)) fun e w' => e = .returned (.string X) ∧ Below w.heap.size w w' :=
  (inums [z0, z1, z2] X hr hX 3 rfl (by omega) _ _ (fun j hj => by
    rw [cell_al2]
    match j, hj with
    | 0, _ => rfl
    | 1, _ => rfl
    | 2, _ => rfl)).mono fun _ _ h => ⟨h.1, bel_tr (bel_tr (bel_al _ _) (bel_al _ _)) h.2⟩
theorem inumsB4 (z0 z1 z2 z3 : Int) (X : ByteArray) (hr : ∀ z ∈ [z0, z1, z2, z3], I64 z) (hX : mk (numsB [z0, z1, z2, z3]) = X) (t : TypeId) (o : Obj) (w : World) :
    Calls Tryz.prog 43 #[.slice (some ⟨w.heap.size + 1, 0, none⟩) 4 4] ((w.alloc o).alloc (.cells #[.int .i64 z0, .int .i64 z1, .int .i64 z2, .int .i64 z3] t)) fun e w' => e = .returned (.string X) ∧ Below w.heap.size w w' :=
  (inums [z0, z1, z2, z3] X hr hX 4 rfl (by omega) _ _ (fun j hj => by
    rw [cell_al2]
    match j, hj with
    | 0, _ => rfl
    | 1, _ => rfl
    | 2, _ => rfl
    | 3, _ => rfl)).mono fun _ _ h => ⟨h.1, bel_tr (bel_tr (bel_al _ _) (bel_al _ _)) h.2⟩
theorem inumsB6 (z0 z1 z2 z3 z4 z5 : Int) (X : ByteArray) (hr : ∀ z ∈ [z0, z1, z2, z3, z4, z5], I64 z) (hX : mk (numsB [z0, z1, z2, z3, z4, z5]) = X) (t : TypeId) (o : Obj) (w : World) :
    Calls Tryz.prog 43 #[.slice (some ⟨w.heap.size + 1, 0, none⟩) 6 6] ((w.alloc o).alloc (.cells #[.int .i64 z0, .int .i64 z1, .int .i64 z2, .int .i64 z3, .int .i64 z4, .int .i64 z5] t)) fun e w' => e = .returned (.string X) ∧ Below w.heap.size w w' :=
  (inums [z0, z1, z2, z3, z4, z5] X hr hX 6 rfl (by omega) _ _ (fun j hj => by
    rw [cell_al2]
    match j, hj with
    | 0, _ => rfl
    | 1, _ => rfl
    | 2, _ => rfl
    | 3, _ => rfl
    | 4, _ => rfl
    | 5, _ => rfl)).mono fun _ _ h => ⟨h.1, bel_tr (bel_tr (bel_al _ _) (bel_al _ _)) h.2⟩

set_option maxRecDepth 100000 in
set_option maxHeartbeats 1000000 in
theorem sealed_val (p J : ByteArray) (w : World) (hp : p.size ≤ 4000) (hJ : sealB p = J) :
    Calls Tryz.prog 17 #[.string p] w fun e w' => e = .returned (.string J) ∧ Below w.heap.size w w' := by
  subst hJ
  go_enter Tryz.func17, Tryz.ntmps17
  go_wp2_with fail
  refine (seal_yes p _ hp).mono ?_
  rintro e w1 ⟨rfl, b1⟩
  go_wp2
  go_ret
  exact ⟨rfl, b1⟩

set_option maxRecDepth 100000 in
set_option maxHeartbeats 1000000 in
theorem leasePart_val (l : Ls) (J : ByteArray) (w : World) (hl : FitL l) (hJ : leaseP l = J) :
    Calls Tryz.prog 20 #[.agg #[.int .i64 l.c, .int .i64 l.u]] w fun e w' => e = .returned (.string J) ∧ Below w.heap.size w w' := by
  have C : Hid (∀ (t : TypeId) (o : Obj) (W : World), Calls Tryz.prog 43 #[.slice (some ⟨W.heap.size + 1, 0, none⟩) 2 2] ((W.alloc o).alloc (.cells #[.int .i64 l.c, .int .i64 l.u] t)) fun e w' => e = .returned (.string J) ∧ Below W.heap.size W w') := inumsB2 l.c l.u J hl.zs hJ
  obtain ⟨c, u⟩ := l
  simp only at *
  clear hl hJ
  go_enter Tryz.func20, Tryz.ntmps20
  go_wp2_with fail
  refine (C.out _ _ _).mono ?_
  rintro e w1 ⟨rfl, b1⟩
  go_wp2
  go_ret
  exact ⟨rfl, b1⟩

set_option maxRecDepth 100000 in
set_option maxHeartbeats 1000000 in
theorem headPart_val {s : Sp} {N L : RS} (J : ByteArray) (w : World) (hN : s.ns.length = N.n) (hL : s.ls.length = L.n) (hf : ∀ z ∈ headZ s, I64 z) (hJ : headL (headZ s) = J) :
    Calls Tryz.prog 18 #[spV s N L] w fun e w' => e = .returned (.string J) ∧ Below w.heap.size w w' := by
  obtain ⟨X, hX⟩ : ∃ X, mk (numsB (headZ s)) = X := ⟨_, rfl⟩
  have hx := numsB_len (headZ s) hf
  have hs : X.size ≤ 60 := by rw [← hX, mk_sz2]; exact hx
  have ha : ∀ w : World, (Op.stringOp .add ⟨#[84]⟩ X).run Tryz.prog w = .ok (.string J) w := fun w => by
    have h := run_string_add_sum (P := Tryz.prog) w ⟨#[84]⟩ X (by have : (⟨#[84]⟩ : ByteArray).size = 1 := rfl; omega)
    have e : (⟨#[84]⟩ : ByteArray) ++ X = J := by
      rw [← hJ, ← hX]
      refine bytes_inj ?_
      unfold headL
      rw [app_list, mk_li, mk_li]
      rfl
    rw [e] at h
    exact h
  have C : Hid (∀ (t : TypeId) (o : Obj) (W : World), Calls Tryz.prog 43 #[.slice (some ⟨W.heap.size + 1, 0, none⟩) 6 6] ((W.alloc o).alloc (.cells #[.int .i64 s.tx, .int .i64 s.nb, .int .i64 s.ng, .int .i64 s.now, .int .i64 (N.n : Int), .int .i64 (L.n : Int)] t)) fun e w' => e = .returned (.string X) ∧ Below W.heap.size W w') := by
    unfold headZ at hf hX
    rw [hN, hL] at hf hX
    exact inumsB6 _ _ _ _ _ _ X hf hX
  obtain ⟨tx, nb, ng, now, ns, ls⟩ := s
  obtain ⟨Na, Nn, Nc⟩ := N
  obtain ⟨La, Ln, Lc⟩ := L
  unfold spV
  simp only at *
  clear hf hJ hX hN hL hx hs
  go_enter Tryz.func18, Tryz.ntmps18
  go_wp2_with fail
  refine (C.out _ _ _).mono ?_
  rintro e w1 ⟨rfl, b1⟩
  go_wp2
  go_ret
  exact ⟨rfl, b1⟩

end Go.Proofs.YtigomhilcnnjdaaGreat.Img

/- The contracts of tabulariumref12.nums and seal. -/
namespace Go.Proofs.YtigomhilcnnjdaaGreat.Img
open Go.RowKit Go.Proofs.YtigomhilcnnjdaaGreat Go.Proofs.YtigomhilcnnjdaaGreat.Smm
open Go.Proofs.YtigomhilcnnjdaaGreat.Edi (numsB numsB_len numsB_take Nm bel_tr bel_al bel_cell)
open Go.Proofs.YtigomhilcnnjdaaGreat.Wir (app_list app_size size_list mk_size numB_len refNum_any)
open Go.WideShapes (bytes_inj)

set_option maxRecDepth 100000 in
set_option maxHeartbeats 1000000 in
theorem refNums_val {a : Option Addr} {m q : Nat} {zs : List Int} {w : World} (h : Nm w a m zs) (h8 : m ≤ 30) (hr : ∀ z ∈ zs, I64 z) (X : ByteArray) (hX : mk (numsB zs) = X) :
    Calls Tryz.prog 40 #[.slice a m q] w fun e w' => e = .returned (.string X) ∧ Below w.heap.size w w' := by
  have HN : Hid (zs.length = m) := h.len
  have HC : Hid (Nm w a m zs) := h
  have HR : Hid (∀ z ∈ zs, I64 z) := hr
  have HX : Hid (mk (numsB zs) = X) := hX
  clear h hr hX
  go_enter Tryz.func40, Tryz.ntmps40
  go_wp2
  go_loopw [3, 4] (fun v c wr => ∃ (i : Nat) (S : ByteArray), i ≤ m ∧ c = .int .i64 i ∧ v = .string S ∧ mk (numsB (zs.take i)) = S ∧ Below w.heap.size w wr) (fun _ c _ => m - (intOf c).toNat)
  case atStart => exact ⟨0, ⟨#[]⟩, by omega, rfl, rfl, rfl, Below.refl _ _⟩
  case round =>
    obtain ⟨i, S, hil, rfl, rfl, hS, hb⟩ := hrel
    have HB : Hid (Below w.heap.size w wr) := hb
    have HS : Hid (mk (numsB (zs.take i)) = S) := hS
    by_cases hlt : i < m
    · have hix : i < zs.length := by rw [HN.out]; exact hlt
      obtain ⟨b, off, rfl, hat⟩ := (HC.out.below hb).at (by omega)
      have e0 := hat i hix
      have hSs : S.size ≤ 300 := by
        rw [← hS, mk_sz2]
        have h2 := numsB_len (zs.take i) (fun z hz => HR.out z (List.mem_of_mem_take hz))
        rw [List.length_take] at h2
        omega
      have hzr := HR.out zs[i] (List.getElem_mem hix)
      have hz10 := numB_len hzr.1 hzr.2
      obtain ⟨T, hT⟩ : ∃ T, mk (numsB (zs.take (i + 1))) = T := ⟨_, rfl⟩
      have hj : S ++ mk (Wir.numB zs[i]) = T := by rw [← hT, ← hS, ← mk_app, ← numsB_take zs i hix]
      have HT : Hid (mk (numsB (zs.take (i + 1))) = T) := hT
      have CN : Hid (∀ W, Calls Tryz.prog 65 #[.int .i64 zs[i]] W fun e w' => e = .returned (.string (mk (Wir.numB zs[i]))) ∧ Below W.heap.size W w') := fun W => refNum_any zs[i] W hzr.1 hzr.2
      have hsz : (mk (Wir.numB zs[i])).size ≤ 10 := by rw [mk_sz2]; exact hz10
      generalize mk (Wir.numB zs[i]) = U at *
      have ha : ∀ w : World, (Op.stringOp .add S U).run Tryz.prog w = .ok (.string T) w := fun w => by
        have h := run_string_add_sum (P := Tryz.prog) w S U (by omega)
        rw [hj] at h
        exact h
      generalize zs[i] = z at *
      clear hb hat hS hT hj hzr hz10 hix hSs hsz
      go_wp2_with fail
      refine (CN.out _).mono ?_
      rintro e w1 ⟨rfl, b1⟩
      have B1 : Hid (Below w.heap.size w w1) := bel_tr HB.out b1
      clear b1
      go_wp2
      go_roundw
      case rel => exact ⟨i + 1, T, by omega, by go_num, rfl, HT.out, B1.out⟩
      case measure => simp [intOf]; omega
    · obtain rfl : i = m := by omega
      have hgd : decide ((i : Int) < (i : Int)) = false := decide_eq_false (by omega)
      have hSX : S = X := by rw [← hS, ← HX.out, List.take_of_length_le (by rw [HN.out]; omega)]
      subst hSX
      clear hb hlt hS
      go_wp2
      go_ret
      exact ⟨rfl, HB.out⟩

set_option maxRecDepth 100000 in
theorem refSeal12_val (p J : ByteArray) (w : World) (hp : p.size ≤ 4000) (hJ : sealB p = J) :
    Calls Tryz.prog 39 #[.string p] w fun e w' => e = .returned (.string J) ∧ Below w.heap.size w w' := by
  subst hJ
  go_enter Tryz.func39, Tryz.ntmps39
  go_wp2_with fail
  refine (refSeal_yes p _ hp).mono ?_
  rintro e w1 ⟨rfl, b1⟩
  go_wp2
  go_ret
  exact ⟨rfl, b1⟩

end Go.Proofs.YtigomhilcnnjdaaGreat.Img

/- The contract of image.nodePart. -/
namespace Go.Proofs.YtigomhilcnnjdaaGreat.Img
open Go.RowKit Go.Proofs.YtigomhilcnnjdaaGreat Go.Proofs.YtigomhilcnnjdaaGreat.Smm
open Go.Proofs.YtigomhilcnnjdaaGreat.Spa (Sp RtS zeroS newS rootN spV SpIn)
open Go.Proofs.YtigomhilcnnjdaaGreat.Lea (LS Ls LL)
open Go.Proofs.YtigomhilcnnjdaaGreat.Edi (numsB numsB_len numsB_take Nm BO bel_tr bel_al bel_cell)
open Go.Proofs.YtigomhilcnnjdaaGreat.Wir (textB textB_data app_list app_size app_assoc size_list mk_size numB_len numB_prefix num_val text_yes)
open Go.WideShapes (bytes_inj)

/-- The part of a node with its first blocks. -/
def partK (x : Nd) (k : Nat) : ByteArray := textB x.path ++ mk (numsB ([kindZ x.dir, x.quota, x.wr, (x.bs.length : Int)] ++ blkZ (x.bs.take k)))
theorem partK_zero (x : Nd) : partK x 0 = textB x.path ++ mk (numsB [kindZ x.dir, x.quota, x.wr, (x.bs.length : Int)]) := by unfold partK; simp [blkZ]
theorem partK_all (x : Nd) : partK x x.bs.length = nodeP x := by unfold partK nodeP nodeZ; rw [List.take_length]
theorem partK_next (x : Nd) (k : Nat) (hk : k < x.bs.length) : partK x k ++ mk (numsB [x.bs[k].id, x.bs[k].gen, x.bs[k].len]) = partK x (k + 1) := by
  unfold partK
  rw [app_assoc, ← mk_app, ← numsB_app, List.append_assoc, ← blkZ_snoc, List.take_succ_eq_append_getElem hk]
theorem partK_size {x : Nd} (h : FitX x) (k : Nat) : (partK x k).size ≤ 4290 := by
  have h1 := numB_len (n := (x.path.size : Int)) (by have := h.path; omega) (by have := h.path; omega)
  have h2 : ∀ z ∈ ([kindZ x.dir, x.quota, x.wr, (x.bs.length : Int)] ++ blkZ (x.bs.take k)), I64 z := fun z hz => by
    rcases List.mem_append.1 hz with hz | hz
    · exact h.zs z (List.mem_append_left _ hz)
    · exact blkZ_i64 (fun b hb => h.bs b (List.mem_of_mem_take hb)) z hz
  have h3 := numsB_len _ h2
  rw [List.length_append, blkZ_len, List.length_take] at h3
  have h4 := h.few
  have h5 := h.path
  have h6 : [kindZ x.dir, x.quota, x.wr, (x.bs.length : Int)].length = 4 := rfl
  unfold partK textB
  rw [app_size, app_size, mk_sz2, mk_size]
  omega

set_option maxRecDepth 100000 in
set_option maxHeartbeats 2000000 in
theorem nodePart_val (x : NR) (J : ByteArray) (w : World) (hx : NdOk w x) (hf : FitX x.1) (hJ : nodeP x.1 = J) :
    Calls Tryz.prog 19 #[ndV x] w fun e w' => e = .returned (.string J) ∧ Below w.heap.size w w' := by
  have HX : Hid (NdOk w x) := hx
  have HF : Hid (FitX x.1) := hf
  have hlen := hx.bs.len
  have HP : Hid (∀ k (hk : k < x.1.bs.length), partK x.1 k ++ mk (numsB [x.1.bs[k].id, x.1.bs[k].gen, x.1.bs[k].len]) = partK x.1 (k + 1)) := partK_next x.1
  have HS : Hid (∀ k, (partK x.1 k).size ≤ 4290) := partK_size hf
  have HA : Hid (partK x.1 x.1.bs.length = J) := by rw [← hJ]; exact partK_all _
  obtain ⟨PT, hPT⟩ : ∃ X : ByteArray, textB x.1.path = X := ⟨_, rfl⟩
  obtain ⟨X4, hX4⟩ : ∃ X : ByteArray, mk (numsB [kindZ x.1.dir, x.1.quota, x.1.wr, (x.1.bs.length : Int)]) = X := ⟨_, rfl⟩
  obtain ⟨P0, hP0⟩ : ∃ X : ByteArray, partK x.1 0 = X := ⟨_, rfl⟩
  have h0 : PT ++ X4 = P0 := by rw [← hP0, partK_zero, hPT, hX4]
  have hs0 : PT.size + X4.size ≤ 4290 := by rw [← app_size, h0, ← hP0]; exact HS.out 0
  have CT : Hid (∀ W, Calls Tryz.prog 44 #[.string x.1.path] W fun e w' => e = .returned (.tuple #[.string PT, .int .i64 0]) ∧ Below W.heap.size W w') := fun W => by rw [← hPT]; exact text_yes x.1.path W hf.path
  have C4 : Hid (∀ (t : TypeId) (W : World), Calls Tryz.prog 43 #[.slice (some ⟨W.heap.size, 0, none⟩) 4 4] (W.alloc (.cells #[.int .i64 (kindZ x.1.dir), .int .i64 x.1.quota, .int .i64 x.1.wr, .int .i64 (x.2.n : Int)] t)) fun e w' => e = .returned (.string X4) ∧ Below W.heap.size W w') := by
    rw [hlen] at hX4
    refine inums4 _ _ _ _ X4 (fun z hz => ?_) hX4
    rw [← hlen] at hz
    exact hf.zs z (List.mem_append_left _ hz)
  have ha : ∀ w : World, (Op.stringOp .add PT X4).run Tryz.prog w = .ok (.string P0) w := fun w => by
    have h := run_string_add_sum (P := Tryz.prog) w PT X4 (by omega)
    rw [h0] at h
    exact h
  obtain ⟨⟨p, d, q, bs, wr⟩, ⟨a, n, c⟩⟩ := x
  simp only at *
  unfold ndV
  simp only
  have HN : Hid (bs.length = n) := hlen
  have HP0 : Hid (partK ⟨p, d, q, bs, wr⟩ 0 = P0) := hP0
  have h8 : n ≤ 8 := by rw [← hlen]; exact hf.few
  clear hx hf hJ hPT hX4 hP0 h0 hs0 hlen
  go_enter Tryz.func19, Tryz.ntmps19
  cases d with
  | true =>
    have hk : kindZ true = 1 := rfl
    rw [hk] at C4
    go_wp2_with fail
    refine (CT.out _).mono ?_
    rintro e w1 ⟨rfl, b1⟩
    have y2 := bel_cell b1 (World.cell?_alloc_new w _ _ 2)
    have y3 := bel_cell b1 (World.cell?_alloc_new w _ _ 3)
    have y4 := bel_cell b1 (World.cell?_alloc_new w _ _ 4)
    have B1 : Hid (Below w.heap.size w w1) := bel_tr (bel_al _ _) b1
    clear b1
    go_wp2_with fail
    refine (C4.out _ _).mono ?_
    rintro e w2 ⟨rfl, b2⟩
    have y3' := bel_cell b2 y3
    have B2 : Hid (Below w.heap.size w w2) := bel_tr B1.out b2
    clear b2 y2 y3 y4
    go_wp2
    go_loopw [6, 32] (fun v c wr1 => ∃ (i : Nat) (P : ByteArray), i ≤ n ∧ c = .int .i64 i ∧ v = .string P ∧ partK ⟨p, true, q, bs, wr⟩ i = P ∧ Below w.heap.size w wr1) (fun _ c _ => n - (intOf c).toNat)
    case atStart => exact ⟨0, P0, by omega, rfl, rfl, HP0.out, B2.out⟩
    case round =>
      rename World => wo
      obtain ⟨i, P, hi, rfl, rfl, hP, hb⟩ := hrel
      have HPI : Hid (partK ⟨p, true, q, bs, wr⟩ i = P) := hP
      have HB : Hid (Below w.heap.size w wo) := hb
      have hPs : P.size ≤ 4290 := by rw [← hP]; exact HS.out i
      clear hP y3'
      by_cases hlt : i < n
      · obtain ⟨b, off, ha0, hcell⟩ := (HX.out.below hb).bs.cells (by show 0 < n; omega)
        simp only at ha0
        subst ha0
        have hib : i < bs.length := by rw [HN.out]; exact hlt
        have hc := hcell i hib
        obtain ⟨P1, hP1⟩ : ∃ X, partK ⟨p, true, q, bs, wr⟩ (i + 1) = X := ⟨_, rfl⟩
        have hn := HP.out i hib
        rw [HPI.out, hP1] at hn
        have hbf := HF.out.bs bs[i] (List.getElem_mem hib)
        have HP1 : Hid (partK ⟨p, true, q, bs, wr⟩ (i + 1) = P1) := hP1
        obtain ⟨bi, hbi⟩ : ∃ bi, bs[i] = bi := ⟨_, rfl⟩
        simp only [hbi] at hc hn hbf
        obtain ⟨f1, f2, f3⟩ := bi
        simp only at hn hbf
        obtain ⟨X3, hX3⟩ : ∃ X, mk (numsB [f1, f2, f3]) = X := ⟨_, rfl⟩
        rw [hX3] at hn
        have hz3 : ∀ z ∈ [f1, f2, f3], I64 z := fun z hz => by
          simp at hz
          rcases hz with rfl | rfl | rfl
          · exact hbf.1
          · exact hbf.2.1
          · exact hbf.2.2
        have hx3 : X3.size ≤ 30 := by rw [← hX3, mk_sz2]; exact numsB_len _ hz3
        have C3 : Hid (∀ (t : TypeId) (o : Obj) (W : World), Calls Tryz.prog 43 #[.slice (some ⟨W.heap.size + 1, 0, none⟩) 3 3] ((W.alloc o).alloc (.cells #[.int .i64 f1, .int .i64 f2, .int .i64 f3] t)) fun e w' => e = .returned (.string X3) ∧ Below W.heap.size W w') := inumsB3 f1 f2 f3 X3 hz3 hX3
        have ha1 : ∀ w : World, (Op.stringOp .add P X3).run Tryz.prog w = .ok (.string P1) w := fun w => by
          have h := run_string_add_sum (P := Tryz.prog) w P X3 (by omega)
          rw [hn] at h
          exact h
        have c0 : wo.cell? ⟨b, off + i * 3, none⟩ = some (.int .i64 f1) := hc 0 _ rfl
        have c1 : wo.cell? ⟨b, off + i * 3 + 1, none⟩ = some (.int .i64 f2) := hc 1 _ rfl
        have c2 : wo.cell? ⟨b, off + i * 3 + 2, none⟩ = some (.int .i64 f3) := hc 2 _ rfl
        have c0a := cell_al c0
        have c1a := cell_al c1
        have c2a := cell_al c2
        clear hb hcell hc hbi hib hP1 hbf hX3 hz3 hn hx3 hPs
        go_wp2_with fail
        refine (C3.out _ _ _).mono ?_
        rintro e w3 ⟨rfl, b3⟩
        have B3 : Hid (Below w.heap.size w w3) := bel_tr HB.out b3
        clear b3 c0 c1 c2 c0a c1a c2a
        go_wp2
        go_roundw
        case rel => exact ⟨i + 1, P1, by omega, by go_num, rfl, HP1.out, B3.out⟩
        case measure => simp [intOf]; omega
      · obtain rfl : i = n := by omega
        have hgd : decide ((i : Int) < (i : Int)) = false := decide_eq_false (by omega)
        have hJ : P = J := by rw [← HPI.out, ← HA.out, HN.out]
        subst hJ
        clear hb hlt
        go_wp2
        go_ret
        exact ⟨rfl, HB.out⟩
  | false =>
    have hk : kindZ false = 0 := rfl
    rw [hk] at C4
    go_wp2_with fail
    refine (CT.out _).mono ?_
    rintro e w1 ⟨rfl, b1⟩
    have y2 := bel_cell b1 (World.cell?_alloc_new w _ _ 2)
    have y3 := bel_cell b1 (World.cell?_alloc_new w _ _ 3)
    have y4 := bel_cell b1 (World.cell?_alloc_new w _ _ 4)
    have B1 : Hid (Below w.heap.size w w1) := bel_tr (bel_al _ _) b1
    clear b1
    go_wp2_with fail
    refine (C4.out _ _).mono ?_
    rintro e w2 ⟨rfl, b2⟩
    have y3' := bel_cell b2 y3
    have B2 : Hid (Below w.heap.size w w2) := bel_tr B1.out b2
    clear b2 y2 y3 y4
    go_wp2
    go_loopw [6, 32] (fun v c wr1 => ∃ (i : Nat) (P : ByteArray), i ≤ n ∧ c = .int .i64 i ∧ v = .string P ∧ partK ⟨p, false, q, bs, wr⟩ i = P ∧ Below w.heap.size w wr1) (fun _ c _ => n - (intOf c).toNat)
    case atStart => exact ⟨0, P0, by omega, rfl, rfl, HP0.out, B2.out⟩
    case round =>
      rename World => wo
      obtain ⟨i, P, hi, rfl, rfl, hP, hb⟩ := hrel
      have HPI : Hid (partK ⟨p, false, q, bs, wr⟩ i = P) := hP
      have HB : Hid (Below w.heap.size w wo) := hb
      have hPs : P.size ≤ 4290 := by rw [← hP]; exact HS.out i
      clear hP y3'
      by_cases hlt : i < n
      · obtain ⟨b, off, ha0, hcell⟩ := (HX.out.below hb).bs.cells (by show 0 < n; omega)
        simp only at ha0
        subst ha0
        have hib : i < bs.length := by rw [HN.out]; exact hlt
        have hc := hcell i hib
        obtain ⟨P1, hP1⟩ : ∃ X, partK ⟨p, false, q, bs, wr⟩ (i + 1) = X := ⟨_, rfl⟩
        have hn := HP.out i hib
        rw [HPI.out, hP1] at hn
        have hbf := HF.out.bs bs[i] (List.getElem_mem hib)
        have HP1 : Hid (partK ⟨p, false, q, bs, wr⟩ (i + 1) = P1) := hP1
        obtain ⟨bi, hbi⟩ : ∃ bi, bs[i] = bi := ⟨_, rfl⟩
        simp only [hbi] at hc hn hbf
        obtain ⟨f1, f2, f3⟩ := bi
        simp only at hn hbf
        obtain ⟨X3, hX3⟩ : ∃ X, mk (numsB [f1, f2, f3]) = X := ⟨_, rfl⟩
        rw [hX3] at hn
        have hz3 : ∀ z ∈ [f1, f2, f3], I64 z := fun z hz => by
          simp at hz
          rcases hz with rfl | rfl | rfl
          · exact hbf.1
          · exact hbf.2.1
          · exact hbf.2.2
        have hx3 : X3.size ≤ 30 := by rw [← hX3, mk_sz2]; exact numsB_len _ hz3
        have C3 : Hid (∀ (t : TypeId) (o : Obj) (W : World), Calls Tryz.prog 43 #[.slice (some ⟨W.heap.size + 1, 0, none⟩) 3 3] ((W.alloc o).alloc (.cells #[.int .i64 f1, .int .i64 f2, .int .i64 f3] t)) fun e w' => e = .returned (.string X3) ∧ Below W.heap.size W w') := inumsB3 f1 f2 f3 X3 hz3 hX3
        have ha1 : ∀ w : World, (Op.stringOp .add P X3).run Tryz.prog w = .ok (.string P1) w := fun w => by
          have h := run_string_add_sum (P := Tryz.prog) w P X3 (by omega)
          rw [hn] at h
          exact h
        have c0 : wo.cell? ⟨b, off + i * 3, none⟩ = some (.int .i64 f1) := hc 0 _ rfl
        have c1 : wo.cell? ⟨b, off + i * 3 + 1, none⟩ = some (.int .i64 f2) := hc 1 _ rfl
        have c2 : wo.cell? ⟨b, off + i * 3 + 2, none⟩ = some (.int .i64 f3) := hc 2 _ rfl
        have c0a := cell_al c0
        have c1a := cell_al c1
        have c2a := cell_al c2
        clear hb hcell hc hbi hib hP1 hbf hX3 hz3 hn hx3 hPs
        go_wp2_with fail
        refine (C3.out _ _ _).mono ?_
        rintro e w3 ⟨rfl, b3⟩
        have B3 : Hid (Below w.heap.size w w3) := bel_tr HB.out b3
        clear b3 c0 c1 c2 c0a c1a c2a
        go_wp2
        go_roundw
        case rel => exact ⟨i + 1, P1, by omega, by go_num, rfl, HP1.out, B3.out⟩
        case measure => simp [intOf]; omega
      · obtain rfl : i = n := by omega
        have hgd : decide ((i : Int) < (i : Int)) = false := decide_eq_false (by omega)
        have hJ : P = J := by rw [← HPI.out, ← HA.out, HN.out]
        subst hJ
        clear hb hlt
        go_wp2
        go_ret
        exact ⟨rfl, HB.out⟩

end Go.Proofs.YtigomhilcnnjdaaGreat.Img
