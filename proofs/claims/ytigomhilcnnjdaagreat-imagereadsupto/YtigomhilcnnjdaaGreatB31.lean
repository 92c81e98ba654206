/- Part 31 of the proof: ImageR4. -/
import Derived.Test.YtigomhilcnnjdaaGreatB16
import Derived.Test.YtigomhilcnnjdaaGreatB17
import Derived.Test.YtigomhilcnnjdaaGreatB28
import Derived.Test.YtigomhilcnnjdaaGreatB29
import Derived.Test.YtigomhilcnnjdaaGreatB30
import Derived.Deep.LoopGhost

/- The contracts of ref12.numbers and ref12.parts. -/
namespace Go.Proofs.YtigomhilcnnjdaaGreat.Img
open Go.RowKit Go.Proofs.YtigomhilcnnjdaaGreat Go.Proofs.YtigomhilcnnjdaaGreat.Smm
open Go.Proofs.YtigomhilcnnjdaaGreat.Edi (numsB takeN takeN_yes takeN_no takeN_size takeN_back takeN_sound Nm NO intC intRow src_int bel_tr bel_al bel_cell bel_drew)
open Go.Proofs.YtigomhilcnnjdaaGreat.Wir (app_assoc app_size app_list size_list refTake_val refTakeV_yes refTakeV_no)
open Go.WideShapes (bytes_inj)

/-- What a text's numbers are. -/
structure NumOf (p : ByteArray) (zs : List Int) (v : Bool) : Prop where
  fit : ∀ z ∈ zs, I64 z
  is : ∀ ys, (∀ z ∈ ys, I64 z) → p = mk (numsB ys) → v = true ∧ zs = ys

theorem mk_data (s : ByteArray) {l : List UInt8} (h : s.data.toList = l) : s = mk l := bytes_inj (by rw [h, mk_li])
theorem nums_go {p cur q : ByteArray} {zs : List Int} {z : Int} (h : ∀ ys, (∀ z ∈ ys, I64 z) → p = mk (numsB ys) → ∃ rest, ys = zs ++ rest ∧ cur = mk (numsB rest)) (ht : takeN cur = some (z, q)) : ∀ ys, (∀ z ∈ ys, I64 z) → p = mk (numsB ys) → ∃ rest, ys = (zs ++ [z]) ++ rest ∧ q = mk (numsB rest) := by
  intro ys hy hp
  obtain ⟨rest, h1, h2⟩ := h ys hy hp
  have hc : cur.data.toList = numsB rest := by rw [h2, mk_li]
  cases rest with
  | nil =>
    have h3 := (takeN_sound ht).1
    rw [hc, numsB_nil] at h3
    have h4 := congrArg List.length h3
    rw [List.length_append, List.length_nil] at h4
    have h5 := Wir.numB_pos z
    omega
  | cons y r =>
    have hyI : I64 y := hy y (by rw [h1]; simp)
    have h3 : takeN cur = some (y, mk (numsB r)) := takeN_back y (mk (numsB r)) hyI.1 hyI.2 (by rw [hc, numsB_cons, mk_li])
    rw [ht] at h3
    simp only [Option.some.injEq, Prod.mk.injEq] at h3
    obtain ⟨rfl, rfl⟩ := h3
    exact ⟨r, by rw [h1]; simp, rfl⟩
theorem nums_out {p cur : ByteArray} {zs : List Int} (h : ∀ ys, (∀ z ∈ ys, I64 z) → p = mk (numsB ys) → ∃ rest, ys = zs ++ rest ∧ cur = mk (numsB rest)) (hne : cur.size ≠ 0) (ht : takeN cur = none) : ∀ ys, (∀ z ∈ ys, I64 z) → p ≠ mk (numsB ys) := by
  intro ys hy hp
  obtain ⟨rest, h1, h2⟩ := h ys hy hp
  have hc : cur.data.toList = numsB rest := by rw [h2, mk_li]
  cases rest with
  | nil => rw [h2] at hne; exact hne rfl
  | cons y r =>
    have hyI : I64 y := hy y (by rw [h1]; simp)
    have h3 : takeN cur = some (y, mk (numsB r)) := takeN_back y (mk (numsB r)) hyI.1 hyI.2 (by rw [hc, numsB_cons, mk_li])
    rw [ht] at h3
    cases h3
theorem nums_whole {p cur : ByteArray} {zs : List Int} (h : ∀ ys, (∀ z ∈ ys, I64 z) → p = mk (numsB ys) → ∃ rest, ys = zs ++ rest ∧ cur = mk (numsB rest)) (h0 : cur.size = 0) : ∀ ys, (∀ z ∈ ys, I64 z) → p = mk (numsB ys) → zs = ys := by
  intro ys hy hp
  obtain ⟨rest, h1, h2⟩ := h ys hy hp
  cases rest with
  | nil => rw [h1, List.append_nil]
  | cons y r =>
    rw [h2, mk_sz2, numsB_cons, List.length_append] at h0
    have h5 := Wir.numB_pos y
    omega
theorem takeN_less {s r : ByteArray} {n : Int} (h : takeN s = some (n, r)) : r.size + 1 ≤ s.size := by
  have h1 := congrArg List.length (takeN_sound h).1
  rw [List.length_append, size_list, size_list] at h1
  have h5 := Wir.numB_pos n
  omega

set_option maxRecDepth 100000 in
set_option maxHeartbeats 2000000 in
theorem refNumbers_val (p : ByteArray) (w : World) (hp : p.size ≤ 4000) :
    Calls Tryz.prog 36 #[.string p] w fun e w' => (∃ a n c zs g v, e = .returned (.tuple #[.slice a n c, .bool v]) ∧ NO w.heap.size w' a n c zs g ∧ NumOf p zs v) ∧ Below w.heap.size w w' := by
  obtain ⟨ti, hi1, hi2, hi3, hi4⟩ := intRow
  have HP : Hid (p.size ≤ 4000) := hp
  clear hp
  go_enter Tryz.func36, Tryz.ntmps36
  go_wp2
  go_loopg [0, 4] 4000 (fun gh v0 v4 wr => ∃ (i : Nat) (fa : Option Addr) (fc : Nat) (g : Option Nat) (cur : ByteArray) (zs : List Int), i + gh = 4000 ∧ cur.size + i ≤ 4000 ∧ v0 = .string cur ∧ v4 = .slice fa i fc ∧ (∀ z ∈ zs, I64 z) ∧ (∀ ys, (∀ z ∈ ys, I64 z) → p = mk (numsB ys) → ∃ rest, ys = zs ++ rest ∧ cur = mk (numsB rest)) ∧ NO w.heap.size wr fa i fc zs g ∧ Below w.heap.size w wr)
  case atStart => exact ⟨0, none, 0, none, p, [], by omega, by have := HP.out; omega, rfl, rfl, (fun z hz => by cases hz), (fun ys _ e => ⟨ys, rfl, e⟩), NO.none _ _, Below.refl _ _⟩
  case round =>
    obtain ⟨i, fa, fc, g, cur, zs, hig, hcg, rfl, rfl, hf, hq, hO, hbl⟩ := hrel
    have HO : Hid (NO w.heap.size wr fa i fc zs g) := hO
    have HB : Hid (Below w.heap.size w wr) := hbl
    have HF : Hid (∀ z ∈ zs, I64 z) := hf
    have HQ : Hid (∀ ys, (∀ z ∈ ys, I64 z) → p = mk (numsB ys) → ∃ rest, ys = zs ++ rest ∧ cur = mk (numsB rest)) := hq
    clear hO hbl hf hq
    by_cases h0 : cur.size = 0
    · have hr1 : cur.data.toList.length = 0 := by rw [size_list]; exact h0
      have hr2 : cur = ⟨#[]⟩ := bytes_inj (by rw [List.length_eq_zero_iff.1 hr1])
      have hpos : cur.toList.isEmpty = true := (empty_iff cur).2 hr2
      have HN : Hid (NumOf p zs true) := ⟨HF.out, fun ys hy e => ⟨rfl, nums_whole HQ.out h0 ys hy e⟩⟩
      clear hr1 hr2 HQ HF
      go_wp2
      go_ret2
      exact ⟨⟨fa, i, fc, zs, g, true, rfl, HO.out, HN.out⟩, HB.out⟩
    · have hpos : cur.toList.isEmpty = false := by
        rw [Bool.eq_false_iff]
        intro e
        exact h0 (congrArg ByteArray.size ((empty_iff _).1 e))
      have hm : cur.size ≤ maxLen := by unfold maxLen; omega
      cases hT : takeN cur with
      | none =>
        have CT : Hid (∀ W, Calls Tryz.prog 59 #[.string cur] W fun e w' => e = .returned (.tuple #[.int .i64 0, .string ⟨#[]⟩, .bool false]) ∧ Below W.heap.size W w') := fun W => refTake_val cur _ W hm (refTakeV_no (takeN_no hT))
        have HN : Hid (NumOf p [] false) := ⟨fun z hz => (by cases hz), fun ys hy e => absurd e (nums_out HQ.out h0 hT ys hy)⟩
        clear hT HQ HF hm h0 HO
        go_wp2_with fail
        refine (CT.out _).mono ?_
        rintro e w1 ⟨rfl, b1⟩
        have B1 : Hid (Below wr.heap.size wr w1) := b1
        clear b1 CT
        go_wp2
        go_ret2
        exact ⟨⟨none, 0, 0, [], none, false, rfl, NO.none _ _, HN.out⟩, bel_tr HB.out B1.out⟩
      | some x =>
        obtain ⟨z, q⟩ := x
        have CT : Hid (∀ W, Calls Tryz.prog 59 #[.string cur] W fun e w' => e = .returned (.tuple #[.int .i64 z, .string q, .bool true]) ∧ Below W.heap.size W w') := by
          obtain ⟨z0, k, h1, h2, h3⟩ := takeN_yes hT
          intro W
          refine refTake_val cur _ W hm ?_
          rw [refTakeV_yes h1, h2, h3]
        have HZ : Hid (∀ y ∈ zs ++ [z], I64 y) := fun y hy => by
          rcases List.mem_append.1 hy with hy | hy
          · exact HF.out y hy
          · rw [List.mem_singleton] at hy
            subst hy
            exact (takeN_sound hT).2
        have HQ2 : Hid (∀ ys, (∀ z ∈ ys, I64 z) → p = mk (numsB ys) → ∃ rest, ys = (zs ++ [z]) ++ rest ∧ q = mk (numsB rest)) := nums_go HQ.out hT
        have HL : Hid (q.size + 1 ≤ cur.size) := takeN_less hT
        clear hT HQ HF hm h0
        go_wp2_with fail
        refine (CT.out _).mono ?_
        rintro e w1 ⟨rfl, b1⟩
        have HB1 : Hid (Below w.heap.size w w1) := bel_tr HB.out b1
        have HO1 : Hid (NO w.heap.size w1 fa i fc zs g) := HO.out.below b1
        clear b1 CT HO
        go_wp2_with (at_builtin; refine wpList_append_cel _ rfl _ _ 75 75 rfl 3 ti _ 1 8 Tryz.underlying75 hi1 hi2 hi3 hi4 rfl (O := fun k => w.heap.size ≤ k) _ i _ g rfl (HO1.out.below (bel_al _ _)).cel _ 1 (rowC intC [z]) rfl (src_int w1 z) (by unfold maxLen; omega) (by omega) ?_; intro a2 c2 w2 g2 hC2 hS2 hg2; have A2 : Hid _ := (HO1.out.below (bel_al _ _)).app (ys := [z]) rfl hC2 (by have := HB1.out.size; simp; omega); have B2 : Hid _ := (HO1.out.below (bel_al _ _)).appBelow hS2 (by have := HB1.out.size; simp; omega); clear hC2 hS2 hg2)
        have hL := HL.out
        go_roundg (4000 - (i + 1))
        case measure => omega
        case rel => exact ⟨i + 1, a2, c2, g2, q, zs ++ [z], by omega, by omega, rfl, rfl, HZ.out, HQ2.out, A2.out, (HB1.out.trans ((bel_al _ _).mono HB1.out.size)).trans B2.out⟩

set_option maxRecDepth 100000 in
set_option maxHeartbeats 2000000 in
theorem refParts_val {ps : List ByteArray} {r : ByteArray} (hS : Small ps) (b : ByteArray) (hb : b = restP ps r 0) (w : World) (hsz : b.size ≤ maxLen) (hn : ps.length ≤ 1000000000) (E : Nat) (hE : (r.size = 0 ∧ E = 0) ∨ BadAt r E) :
    Calls Tryz.prog 13 #[.string b] w fun e w' => OpenedR (if E = 0 then ps else []) E e w' ∧ Below w.heap.size w w' := by
  obtain ⟨ti, hi1, hi2, hi3, hi4⟩ := strRow
  have HS : Hid (Small ps) := hS
  have HBM : Hid (∀ i, i ≤ ps.length → (restP ps r i).size ≤ maxLen) := by
    intro i
    induction i with
    | zero => intro _; rw [← hb]; exact hsz
    | succ i ih =>
      intro hi
      have h1 := ih (by omega)
      rw [restP_next ps r i (by omega), app_size] at h1
      omega
  have HE : Hid ((r.size = 0 ∧ E = 0) ∨ BadAt r E) := hE
  subst hb
  clear hS hE hsz
  go_enter Tryz.func13, Tryz.ntmps13
  go_wp2
  go_loopg [0, 4] ps.length (fun gh v0 v4 wr => ∃ (i : Nat) (fa : Option Addr) (fc : Nat) (g : Option Nat), i + gh = ps.length ∧ v0 = .string (restP ps r i) ∧ v4 = .slice fa i fc ∧ Cel (fun k => w.heap.size ≤ k) wr 1 (.slice fa i fc) i (rowC strC (ps.take i)) g ∧ Below w.heap.size w wr)
  case atStart => exact ⟨0, none, 0, none, by omega, rfl, rfl, .nil rfl rfl rfl, Below.refl _ _⟩
  case round =>
    obtain ⟨i, fa, fc, g, hig, rfl, rfl, hC, hbl⟩ := hrel
    have HC : Hid (Cel (fun k => w.heap.size ≤ k) wr 1 (.slice fa i fc) i (rowC strC (ps.take i)) g) := hC
    have HB : Hid (Below w.heap.size w wr) := hbl
    clear hC hbl
    by_cases hlt : i < ps.length
    · have hnx := restP_next ps r i hlt
      have hm := HBM.out i (by omega)
      have hop : openT (restP ps r i) = (ps[i], restP ps r (i + 1), 0) := by rw [hnx]; exact open_back _ _ (HS.out _ (List.getElem_mem hlt))
      have hpos : (restP ps r i).toList.isEmpty = false := by
        rw [Bool.eq_false_iff]
        intro e
        have h2 := congrArg ByteArray.size ((empty_iff _).1 e)
        rw [hnx, app_size] at h2
        have h3 := sealB_pos ps[i]
        have h4 : (⟨#[]⟩ : ByteArray).size = 0 := rfl
        omega
      have HT : Hid (rowC strC (ps.take (i + 1)) = rowC strC (ps.take i) ++ rowC strC [ps[i]]) := by
        show rowC strC (ps.take (i + 1)) = _
        rw [List.take_succ_eq_append_getElem hlt, rowC_app]
      have CO : Hid (∀ W, Calls Tryz.prog 35 #[.string (restP ps r i)] W fun e w' => e = .returned (.tuple #[.string ps[i], .string (restP ps r (i + 1)), .int .i64 ((0 : Nat) : Int)]) ∧ Below W.heap.size W w') := fun W => refOpen_any _ _ _ 0 W hm hop
      generalize restP ps r i = cur at *
      generalize hnb : restP ps r (i + 1) = nxt at *
      have HNB : Hid (restP ps r (i + 1) = nxt) := hnb
      generalize ps[i] = p at *
      clear hnx hm hop hnb
      go_wp2_with fail
      refine (CO.out _).mono ?_
      rintro e w1 ⟨rfl, b1⟩
      have B1 : Hid (Below wr.heap.size wr w1) := b1
      clear b1 CO
      go_wp2_with (at_builtin; refine wpList_append_cel _ rfl _ _ 37 37 rfl 9 ti _ 1 16 Tryz.underlying37 hi1 hi2 hi3 hi4 rfl (O := fun k => w.heap.size ≤ k) _ i _ g rfl ((HC.out.below B1.out).below (bel_al _ _)) _ 1 (rowC strC [p]) rfl (src_new1 w1 p) (by unfold maxLen; omega) (by omega) ?_; intro a2 c2 w2 g2 hC2 hS2 hg2; have A2 : Hid _ := grow_own hC2 (by have := HB.out.size; have := B1.out.size; simp; omega); have B2 : Hid _ := cel_below ((HC.out.below B1.out).below (bel_al _ _)) hS2 (by have := HB.out.size; have := B1.out.size; simp; omega) (bel_tr HB.out (bel_tr B1.out (bel_al _ _))); clear hC2 hS2 hg2)
      go_roundg (ps.length - (i + 1))
      case measure => omega
      case rel => exact ⟨i + 1, a2, c2, g2, by omega, by rw [HNB.out], rfl, by rw [HT.out]; exact A2.out, B2.out⟩
    · obtain rfl : i = ps.length := by omega
      have hend := restP_end ps r
      have hm := HBM.out _ (Nat.le_refl ps.length)
      rw [hend] at hm ⊢
      rcases HE.out with ⟨hr0, rfl⟩ | hbad
      · have hr1 : r.data.toList.length = 0 := by rw [size_list]; exact hr0
        have hr2 : r = ⟨#[]⟩ := bytes_inj (by rw [List.length_eq_zero_iff.1 hr1])
        have hpos : r.toList.isEmpty = true := (empty_iff r).2 hr2
        clear hr1 hr2
        obtain ⟨hc1, hc2⟩ := cel_room HC.out
        have hst : ∃ b, Strs wr fa b 0 ps := by
          have h1 := HC.out
          rw [List.take_length] at h1
          exact h1.strs rfl (fun s hs => by have := HS.out s hs; unfold maxLen; omega)
        obtain ⟨b0, hst⟩ := hst
        have HST : Hid (Strs wr fa b0 0 ps) := hst
        have HC1 : Hid (ps.length ≤ fc) := hc1
        have HC2 : Hid (fc ≤ maxLen) := hc2
        clear hst hc1 hc2 hm hend hlt hr0 HC
        go_wp2
        go_ret2
        exact ⟨⟨fa, b0, ps.length, fc, rfl, rfl, HC1.out, HC2.out, HST.out⟩, HB.out⟩
      · have hpos : r.toList.isEmpty = false := by
          rw [Bool.eq_false_iff]
          intro e
          exact hbad.pos (congrArg ByteArray.size ((empty_iff _).1 e))
        have hop := hbad.empty
        have hne := hbad.ne
        have hneI : ((E : Int) != 0) = true := by simp; omega
        have CO : Hid (∀ W, Calls Tryz.prog 35 #[.string r] W fun e w' => e = .returned (.tuple #[.string ⟨#[]⟩, .string ⟨#[]⟩, .int .i64 (E : Int)]) ∧ Below W.heap.size W w') := fun W => refOpen_any _ _ _ E W hm hop
        have HIF : Hid ((if E = 0 then ps else []) = []) := if_neg hne
        have hneB : (E == 0) = false := by simpa using hne
        clear hm hend hlt hop hbad HC
        go_wp2_with fail
        refine (CO.out _).mono ?_
        rintro e w1 ⟨rfl, b1⟩
        have B1 : Hid (Below wr.heap.size wr w1) := b1
        clear b1 CO
        go_wp2
        go_ret2
        try rw [HIF.out]
        exact ⟨⟨none, 0, 0, 0, rfl, rfl, Nat.le_refl _, Nat.zero_le _, fun hp => by simp at hp, fun j hj => by simp at hj, by simp, by simp⟩, bel_tr HB.out B1.out⟩

end Go.Proofs.YtigomhilcnnjdaaGreat.Img
