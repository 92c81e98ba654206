/- Part 23 of the proof: LogQ, LogQ2. -/
import Derived.Test.YtfmhmokbbkliaaaGreatB20
import Derived.Test.YtfmhmokbbkliaaaGreatB21
import Derived.Test.YtfmhmokbbkliaaaGreatB22

/- The contracts of tabulariumref14.Parse. -/
namespace Go.Proofs.YtfmhmokbbkliaaaGreat.Lgg
open Go.RowKit Go.Proofs.YtfmhmokbbkliaaaGreat
open Go.Proofs.YtfmhmokbbkliaaaGreat.Wir (takeZ refTakeV refTakeV_no refTakeV_yes refTake_val)
open Go.Proofs.YtfmhmokbbkliaaaGreat.Smm (openT refOpen_any bytes_ne)
set_option linter.unusedVariables false

/-- What the reference takes of a part: the number, what is behind, is it one. -/
structure Tk (T : ByteArray) (n : Int) (d : ByteArray) (ok : Bool) : Prop where
  v : refTakeV T = .tuple #[.int .i64 n, .string d, .bool ok]
  sz : d.size ≤ T.size
theorem tk_ex (T : ByteArray) : ∃ n d ok, Tk T n d ok := by
  cases h : takeZ 0 0 T.data.toList with
  | none => exact ⟨_, _, _, refTakeV_no h, Nat.zero_le _⟩
  | some p => exact ⟨_, _, _, refTakeV_yes (z := p.1) (k := p.2) h, by rw [ByteArray.size_extract]; omega⟩
theorem takeP_of {b T R d : ByteArray} {E : Nat} {n : Int} {ok : Bool} (hO : openT b = (T, R, E)) (ht : Tk T n d ok) : takeP b = if E = 0 ∧ ok = true then some (n, d, R) else none := by
  unfold takeP
  rw [hO]
  cases E with
  | succ E => simp
  | zero =>
    simp only
    have hv := ht.v
    cases h : takeZ 0 0 T.data.toList with
    | none =>
      rw [refTakeV_no h] at hv
      simp at hv
      obtain ⟨_, _, rfl⟩ := hv
      simp
    | some p =>
      rw [refTakeV_yes (z := p.1) (k := p.2) h] at hv
      simp at hv
      obtain ⟨rfl, rfl, rfl⟩ := hv
      simp

set_option maxRecDepth 100000 in
set_option maxHeartbeats 4000000 in
theorem refParse_no (b : ByteArray) (hb : b.size ≤ maxLen) (h : epochP b = none) (w : World) :
    Calls Tryz.prog 54 #[.string b] w fun e w' => e = .returned (.tuple #[.agg #[.int .i64 0, .slice none 0 0], .bool false, .bool false]) ∧ Below w.heap.size w w' := by
  obtain ⟨T, R, E, hO⟩ : ∃ T R E, openT b = (T, R, E) := ⟨_, _, _, rfl⟩
  obtain ⟨n, d, ok, ht⟩ := tk_ex T
  have hsz := openT_size hO
  have htp := takeP_of hO ht
  have HO : Hid (∀ W, Calls Tryz.prog 60 #[.string b] W fun e w' => e = .returned (.tuple #[.string T, .string R, .int .i64 (E : Int)]) ∧ Below W.heap.size W w') := fun W => refOpen_any b T R E W hb hO
  have HT : Hid (∀ W, Calls Tryz.prog 99 #[.string T] W fun e w' => e = .returned (.tuple #[.int .i64 n, .string d, .bool ok]) ∧ Below W.heap.size W w') := fun W => refTake_val T _ W (by unfold maxLen; omega) ht.v
  have hcs : ¬ (E : Int) = 0 ∨ ((E : Int) = 0 ∧ ok = false) ∨ ((E : Int) = 0 ∧ ok = true ∧ d.toList.isEmpty = false) ∨ ((E : Int) = 0 ∧ ok = true ∧ d = ⟨#[]⟩ ∧ n < 0) ∨ ((E : Int) = 0 ∧ ok = true ∧ d = ⟨#[]⟩ ∧ ¬ n < 0 ∧ 9007199254740991 < n) := by
    by_cases h1 : E = 0
    · cases ok with
      | false => exact .inr (.inl ⟨by omega, rfl⟩)
      | true =>
        rw [if_pos ⟨h1, rfl⟩] at htp
        unfold epochP at h
        rw [htp] at h
        simp only at h
        by_cases h2 : d.size = 0
        · have hde : d = ⟨#[]⟩ := by
            apply Go.WideShapes.bytes_inj
            have h9 : d.data.toList.length = 0 := by rw [Wir.size_list]; exact h2
            rw [List.length_eq_zero_iff.1 h9]
          have h3 : ¬ epOk n = true := fun e => by rw [if_pos ⟨e, h2⟩] at h; cases h
          unfold epOk maxN at h3
          simp at h3
          by_cases h4 : n < 0
          · exact .inr (.inr (.inr (.inl ⟨by omega, rfl, hde, h4⟩)))
          · exact .inr (.inr (.inr (.inr ⟨by omega, rfl, hde, h4, h3 (by omega)⟩)))
        · exact .inr (.inr (.inl ⟨by omega, rfl, is_empty (decide_eq_false h2)⟩))
    · exact .inl (by omega)
  have HCS : Hid (¬ (E : Int) = 0 ∨ ((E : Int) = 0 ∧ ok = false) ∨ ((E : Int) = 0 ∧ ok = true ∧ d.toList.isEmpty = false) ∨ ((E : Int) = 0 ∧ ok = true ∧ d = ⟨#[]⟩ ∧ n < 0) ∨ ((E : Int) = 0 ∧ ok = true ∧ d = ⟨#[]⟩ ∧ ¬ n < 0 ∧ 9007199254740991 < n)) := hcs
  have hst2 : ∀ (w : World) (a : Addr) (x : Option Addr) (n c : Nat) (m : Mode), (store a (.slice x n c) m).run Tryz.prog w = stored Tryz.prog w a (.slice x n c) m := fun w a x n c m => run_store (P := Tryz.prog) w a _ m rfl
  clear hcs htp hsz ht hO h
  generalize (E : Int) = EI at *
  go_enter Tryz.func54, Tryz.ntmps54
  go_wp2_with fail
  refine (HO.out _).mono ?_
  rintro e w1 ⟨rfl, b1⟩
  have B1 : Hid (Below (w.alloc (.cells #[.int .i64 0, .slice none 0 0] 34)).heap.size (w.alloc (.cells #[.int .i64 0, .slice none 0 0] 34)) w1) := b1
  clear b1
  go_wp2_with fail
  refine (HT.out _).mono ?_
  rintro e w2 ⟨rfl, b2⟩
  have bb := bel_tr B1.out b2
  have y0 : w2.cell? ⟨w.heap.size, 0, none⟩ = some (.int .i64 0) := bel_cell bb (World.cell?_alloc_new w _ _ 0)
  have y1 : w2.cell? ⟨w.heap.size, 1, none⟩ = some (.slice none 0 0) := bel_cell bb (World.cell?_alloc_new w _ _ 1)
  have f0 : w2.frozen? ⟨w.heap.size, 0, none⟩ = false := (World.frozen?_of_block (a := ⟨w.heap.size, 0, none⟩) (bb.block w.heap.size (by simp))).trans (World.frozen?_alloc_new w _ _ 0)
  have f1 : w2.frozen? ⟨w.heap.size, 1, none⟩ = false := (World.frozen?_of_block (a := ⟨w.heap.size, 1, none⟩) (bb.block w.heap.size (by simp))).trans (World.frozen?_alloc_new w _ _ 1)
  have B2 : Hid (Below w.heap.size w w2) := bel_tr (bel_al _ _) bb
  obtain ⟨z0, z1⟩ := two_set (u' := .int .i64 0) (v' := .slice none 0 0) y0 y1
  clear b2 bb B1
  rcases HCS.out with h1 | ⟨rfl, rfl⟩ | ⟨rfl, rfl, hde⟩ | ⟨rfl, rfl, rfl, hn⟩ | ⟨rfl, rfl, rfl, hn, hn2⟩
  · have hb1 : (EI == 0) = false := beq_eq_false_iff_ne.2 h1
    go_wp2
    refine bodyPost_ret (v := .tuple #[.agg #[.int .i64 0, .slice none 0 0], .bool false, .bool false]) ?_ rfl ⟨rfl, Below.setCell (Below.setCell B2.out (Nat.le_refl _) _) (Nat.le_refl _) _⟩
    simp only [results, Tryz.results54]
    simp [go_sem, z0, z1]
  all_goals
    go_wp2
    refine bodyPost_ret (v := .tuple #[.agg #[.int .i64 0, .slice none 0 0], .bool false, .bool false]) ?_ rfl ⟨rfl, Below.setCell (Below.setCell B2.out (Nat.le_refl _) _) (Nat.le_refl _) _⟩
    simp only [results, Tryz.results54]
    simp [go_sem, z0, z1]

end Go.Proofs.YtfmhmokbbkliaaaGreat.Lgg

/- The contract of tabulariumref14.Parse: what is read. -/
namespace Go.Proofs.YtfmhmokbbkliaaaGreat.Lgg
open Go.RowKit Go.Proofs.YtfmhmokbbkliaaaGreat
open Go.Proofs.YtfmhmokbbkliaaaGreat.Wir (refTake_val)
open Go.Proofs.YtfmhmokbbkliaaaGreat.Smm (openT refOpen_any)
set_option linter.unusedVariables false

structure ParR (base : Nat) (l : Lg) (whole : Bool) (e : Ending) (w' : World) : Prop where
  ex : ∃ a c g, e = .returned (.tuple #[.agg #[.int .i64 l.ep, .slice a l.es.length c], .bool whole, .bool true]) ∧ Cel (fun k => base ≤ k) w' 2 (.slice a l.es.length c) l.es.length (rowC enC l.es) g

structure Lq (w W : World) (rb lb : Nat) (n : Int) (es : List En) (k : Nat) (b : ByteArray) (tot : List En × ByteArray) : Prop where
  ex : ∃ a c g, Ob W rb lb n (.slice a k c) ∧ Cel (fun q => lb < q) W 2 (.slice a k c) k (rowC enC es) g
  len : es.length = k
  le : k ≤ 300
  bel : Below w.heap.size w W
  go : goL (300 - k) es b = tot
  bm : b.size ≤ maxLen

theorem fin_q {w W : World} {lb : Nat} {n : Int} {a : Option Addr} {k c : Nat} {es : List En} {g : Option Nat} {s : Value} (hO : Ob W w.heap.size lb n s) (hC : Cel (fun q => lb < q) W 2 (.slice a k c) k (rowC enC es) g) (hb : Below w.heap.size w W) :
    ((W.setCell ⟨w.heap.size, 0, none⟩ (.int .i64 n)).setCell ⟨w.heap.size, 1, none⟩ (.slice a k c)).cell? ⟨w.heap.size, 0, none⟩ = some (.int .i64 n) ∧ ((W.setCell ⟨w.heap.size, 0, none⟩ (.int .i64 n)).setCell ⟨w.heap.size, 1, none⟩ (.slice a k c)).cell? ⟨w.heap.size, 1, none⟩ = some (.slice a k c) ∧ Cel (fun q => w.heap.size ≤ q) ((W.setCell ⟨w.heap.size, 0, none⟩ (.int .i64 n)).setCell ⟨w.heap.size, 1, none⟩ (.slice a k c)) 2 (.slice a k c) k (rowC enC es) g ∧ Below w.heap.size w ((W.setCell ⟨w.heap.size, 0, none⟩ (.int .i64 n)).setCell ⟨w.heap.size, 1, none⟩ (.slice a k c)) := by
  obtain ⟨z0, z1⟩ := two_set (u' := .int .i64 n) (v' := .slice a k c) hO.d0 hO.d1
  have hl := hO.lt
  have hne : g ≠ some w.heap.size := fun e => by rw [e] at hC; have h9 : lb < w.heap.size := hC.lt.2; omega
  have h8 := (hC.setOut ⟨w.heap.size, 0, none⟩ (.int .i64 n) hne).setOut ⟨w.heap.size, 1, none⟩ (.slice a k c) hne
  exact ⟨z0, z1, h8.stay (Nat.le_refl _) (fun _ _ => rfl) (fun q hq => by have h9 : lb < q := hq; omega), Below.setCell (Below.setCell hb (Nat.le_refl _) _) (Nat.le_refl _) _⟩

set_option maxRecDepth 100000 in
set_option maxHeartbeats 8000000 in
theorem refParse_yes (b : ByteArray) (hb : b.size ≤ maxLen) (l : Lg) (R : ByteArray) (hp : parseL b = some (l, R)) (wh : Bool) (hwh : decide (R.size = 0) = wh) (w : World) :
    Calls Tryz.prog 54 #[.string b] w fun e w' => ParR w.heap.size l wh e w' ∧ Below w.heap.size w w' := by
  unfold parseL at hp
  split at hp
  case h_2 => cases hp
  rename_i n r hE
  simp only [Option.some.injEq, Prod.mk.injEq] at hp
  obtain ⟨rfl, rfl⟩ := hp
  have hwe := is_empty hwh
  have hrm : r.size ≤ maxLen := Nat.le_trans (epochP_size hE) hb
  obtain ⟨ti, hi1, hi2, hi3, hi4⟩ := info_e
  obtain ⟨T, R0, E, hO⟩ : ∃ T R E, openT b = (T, R, E) := ⟨_, _, _, rfl⟩
  obtain ⟨n0, d0, ok, ht⟩ := tk_ex T
  have hsz := openT_size hO
  have htp := takeP_of hO ht
  have hall : E = 0 ∧ ok = true ∧ n0 = n ∧ d0 = ⟨#[]⟩ ∧ R0 = r ∧ ¬ n < 0 ∧ ¬ 9007199254740991 < n := by
    unfold epochP at hE
    by_cases h1 : E = 0 ∧ ok = true
    · rw [if_pos h1] at htp
      rw [htp] at hE
      simp only at hE
      split at hE
      · rename_i hc
        cases hE
        have h9 := ep_in hc.1
        refine ⟨h1.1, h1.2, rfl, ?_, rfl, by omega, by omega⟩
        apply Go.WideShapes.bytes_inj
        have h8 : d0.data.toList.length = 0 := by rw [Wir.size_list]; exact hc.2
        rw [List.length_eq_zero_iff.1 h8]
      · cases hE
    · rw [if_neg h1] at htp
      rw [htp] at hE
      cases hE
  obtain ⟨rfl, rfl, rfl, rfl, rfl, hn1, hn2⟩ := hall
  have HO : Hid (∀ W, Calls Tryz.prog 60 #[.string b] W fun e w' => e = .returned (.tuple #[.string T, .string R0, .int .i64 0]) ∧ Below W.heap.size W w') := fun W => refOpen_any b T R0 0 W hb hO
  have HT : Hid (∀ W, Calls Tryz.prog 99 #[.string T] W fun e w' => e = .returned (.tuple #[.int .i64 n0, .string ⟨#[]⟩, .bool true]) ∧ Below W.heap.size W w') := fun W => refTake_val T _ W (by unfold maxLen; omega) ht.v
  obtain ⟨tot, htot⟩ : ∃ t, goL 300 [] R0 = t := ⟨_, rfl⟩
  rw [htot] at hwe ⊢
  have HTT : Hid (goL 300 [] R0 = tot) := htot
  have HRM : Hid (R0.size ≤ maxLen) := hrm
  have HWE : Hid (tot.2.toList.isEmpty = wh) := hwe
  have hst2 : ∀ (w : World) (a : Addr) (x : Option Addr) (n c : Nat) (m : Mode), (store a (.slice x n c) m).run Tryz.prog w = stored Tryz.prog w a (.slice x n c) m := fun w a x n c m => run_store (P := Tryz.prog) w a _ m rfl
  clear hE htp hsz ht hO htot hwh hrm hwe hb
  go_enter Tryz.func54, Tryz.ntmps54
  go_wp2_with fail
  refine (HO.out _).mono ?_
  rintro e w1 ⟨rfl, b1⟩
  have B1 : Hid (Below (w.alloc (.cells #[.int .i64 0, .slice none 0 0] 34)).heap.size (w.alloc (.cells #[.int .i64 0, .slice none 0 0] 34)) w1) := b1
  clear b1
  go_wp2_with fail
  refine (HT.out _).mono ?_
  rintro e w2 ⟨rfl, b2⟩
  have L0 : Hid (Lq w (w2.alloc (.cells #[.int .i64 n0, .slice none 0 0] 34)) w.heap.size w2.heap.size n0 [] 0 R0 tot) := by
    have bb := bel_tr B1.out b2
    have hlt : w.heap.size < w2.heap.size := by have h9 := bb.size; simp at h9; omega
    have al := bel_al w2 (.cells #[.int .i64 n0, .slice none 0 0] 34)
    refine ⟨⟨none, 0, none, ⟨World.cell?_alloc_new w2 _ _ 0, World.cell?_alloc_new w2 _ _ 1, bel_cell (bel_tr bb al) (World.cell?_alloc_new w _ _ 0), bel_cell (bel_tr bb al) (World.cell?_alloc_new w _ _ 1), fun j => World.frozen?_alloc_new w2 _ _ j, fun j => (World.frozen?_of_block (a := ⟨w.heap.size, j, none⟩) ((bel_tr bb al).block w.heap.size (by simp))).trans (World.frozen?_alloc_new w _ _ j), ⟨hlt, by simp⟩⟩, .nil rfl rfl rfl⟩, rfl, by omega, bel_tr (bel_tr (bel_al _ _) bb) al, HTT.out, HRM.out⟩
  clear b2 B1 HO HT HTT HRM
  go_wp2
  generalize w2.alloc (.cells #[.int .i64 n0, .slice none 0 0] 34) = W0 at *
  generalize w2.heap.size = lb at *
  go_loopw [6] (fun v wr => ∃ (k : Nat) (es : List En) (b' : ByteArray), v = .string b' ∧ Lq w wr w.heap.size lb n0 es k b' tot) (fun _ wr => 300 - lenAt wr ⟨lb, 1, none⟩)
  case atStart => exact ⟨0, [], R0, rfl, L0.out⟩
  case round =>
    obtain ⟨k, es, b', rfl, hL⟩ := hrel
    have HL : Hid (Lq w wr w.heap.size lb n0 es k b' tot) := hL
    obtain ⟨a, c, g, hB, hC⟩ := hL.ex
    have hle := hL.le
    have HB : Hid (Ob wr w.heap.size lb n0 (.slice a k c)) := hB
    have HC : Hid (Cel (fun q => lb < q) wr 2 (.slice a k c) k (rowC enC es) g) := hC
    have HLN : Hid (es.length = k) := hL.len
    have c0 := hB.c0
    have c1 := hB.c1
    have hg0 := hB.d0
    have hg1 := hB.d1
    have f0 := hB.f1 0
    have f1 := hB.f1 1
    have hbm := hL.bm
    have HEND : Hid (tot = (es, b') → ∀ W, Below wr.heap.size wr W → (Ob W w.heap.size lb n0 (.slice a k c) ∧ ((W.setCell ⟨w.heap.size, 0, none⟩ (.int .i64 n0)).setCell ⟨w.heap.size, 1, none⟩ (.slice a k c)).cell? ⟨w.heap.size, 0, none⟩ = some (.int .i64 n0) ∧ ((W.setCell ⟨w.heap.size, 0, none⟩ (.int .i64 n0)).setCell ⟨w.heap.size, 1, none⟩ (.slice a k c)).cell? ⟨w.heap.size, 1, none⟩ = some (.slice a k c) ∧ ParR w.heap.size ⟨n0, tot.1⟩ wh (.returned (.tuple #[.agg #[.int .i64 n0, .slice a k c], .bool wh, .bool true])) ((W.setCell ⟨w.heap.size, 0, none⟩ (.int .i64 n0)).setCell ⟨w.heap.size, 1, none⟩ (.slice a k c)) ∧ Below w.heap.size w ((W.setCell ⟨w.heap.size, 0, none⟩ (.int .i64 n0)).setCell ⟨w.heap.size, 1, none⟩ (.slice a k c)) ∧ b'.toList.isEmpty = wh)) := fun he W hbW => by
      have hO2 := HB.out.stay (O := fun _ => False) (Stay.of_below hbW) (fun _ e => e.elim)
      obtain ⟨q1, q2, q3, q4⟩ := fin_q (w := w) hO2 (HC.out.below hbW) (bel_tr HL.out.bel hbW)
      subst he
      refine ⟨hO2, q1, q2, ⟨a, c, g, by simp only [HLN.out], by simp only [HLN.out]; exact q3⟩, q4, HWE.out⟩
    clear hL hB hC L0
    by_cases hem : b'.size = 0
    · have hbe : b' = ⟨#[]⟩ := by
        apply Go.WideShapes.bytes_inj
        have h8 : b'.data.toList.length = 0 := by rw [Wir.size_list]; exact hem
        rw [List.length_eq_zero_iff.1 h8]
      have hto : tot = (es, b') := by
        have h1 := HL.out.go
        rw [hbe, goL_stop entry_empty] at h1
        rw [hbe]; exact h1.symm
      obtain ⟨_, q1, q2, q3, q4, q5⟩ := HEND.out hto wr (Below.refl _ _)
      have he1 : b'.toList.isEmpty = true := is_empty (decide_eq_true hem)
      rw [he1] at q5
      subst q5
      have Q3 : Hid (ParR w.heap.size ⟨n0, tot.1⟩ true (.returned (.tuple #[.agg #[.int .i64 n0, .slice a k c], .bool true, .bool true])) ((wr.setCell ⟨w.heap.size, 0, none⟩ (.int .i64 n0)).setCell ⟨w.heap.size, 1, none⟩ (.slice a k c))) := q3
      have Q4 : Hid (Below w.heap.size w ((wr.setCell ⟨w.heap.size, 0, none⟩ (.int .i64 n0)).setCell ⟨w.heap.size, 1, none⟩ (.slice a k c))) := q4
      clear hto q3 q4 HEND HL HC HB HWE
      go_wp2
      refine bodyPost_ret (v := .tuple #[.agg #[.int .i64 n0, .slice a k c], .bool true, .bool true]) ?_ rfl ⟨Q3.out, Q4.out⟩
      simp only [results, Tryz.results54]
      simp [go_sem, q1, q2]
    · have he1 : b'.toList.isEmpty = false := is_empty (decide_eq_false hem)
      by_cases hk : k < 300
      · obtain ⟨T2, R2, E2, hO2⟩ : ∃ T R E, openT b' = (T, R, E) := ⟨_, _, _, rfl⟩
        obtain ⟨n2, d2, ok2, ht2⟩ := tk_ex T2
        have hsz2 := openT_size hO2
        have htp2 := takeP_of hO2 ht2
        have hd2 : d2.size ≤ 9223372036854775807 := by have := ht2.sz; omega
        have HO2 : Hid (∀ W, Calls Tryz.prog 60 #[.string b'] W fun e w' => e = .returned (.tuple #[.string T2, .string R2, .int .i64 (E2 : Int)]) ∧ Below W.heap.size W w') := fun W => refOpen_any b' T2 R2 E2 W hbm hO2
        have HT2 : Hid (∀ W, Calls Tryz.prog 99 #[.string T2] W fun e w' => e = .returned (.tuple #[.int .i64 n2, .string d2, .bool ok2]) ∧ Below W.heap.size W w') := fun W => refTake_val T2 _ W (by unfold maxLen; omega) ht2.v
        by_cases hyes : E2 = 0 ∧ ok2 = true ∧ n2 = ((k + 1 : Nat) : Int) ∧ d2.size ≤ 600
        · obtain ⟨rfl, rfl, hn3, hd3⟩ := hyes
          have hP : entryP b' ((k + 1 : Nat) : Int) = some (d2, R2) := by
            unfold entryP
            rw [htp2, if_pos ⟨rfl, rfl⟩]
            simp only
            rw [if_pos ⟨hn3, hd3⟩]
          have HNX : Hid (goL (300 - (k + 1)) (es ++ [⟨(k : Int) + 1, d2⟩]) R2 = tot) := by
            have h1 := HL.out.go
            obtain ⟨f, hf⟩ : ∃ f, 300 - k = f + 1 := ⟨299 - k, by omega⟩
            rw [hf] at h1
            unfold goL at h1
            rw [HLN.out, hP] at h1
            simp only at h1
            rw [show 300 - (k + 1) = f by omega, show (k : Int) + 1 = ((k + 1 : Nat) : Int) by omega]
            exact h1
          have HR2 : Hid (R2.size ≤ maxLen) := Nat.le_trans hsz2.2 hbm
          obtain rfl : n2 = (k : Int) + 1 := by omega
          clear hP htp2 ht2 hO2 hsz2 hn3 HEND
          go_wp2_with (first
            | (go_at_call 60; refine (HO2.out _).mono ?_; rintro e w3 ⟨rfl, b3⟩; have B3 : Hid (Below wr.heap.size wr w3) := b3; clear b3)
            | (go_at_call 99; refine (HT2.out _).mono ?_; rintro e w4 ⟨rfl, b4⟩; have B4 : Hid (Below wr.heap.size wr w4) := bel_tr B3.out b4; clear b4; have u1 := bel_cell B4.out c1; have CW : Hid (Cel (fun q => lb < q) (w4.alloc (.cells #[.int .i64 ((k : Int) + 1), .string d2] 24)) 2 (.slice a k c) k (rowC enC es) g) := (HC.out.below B4.out).below (bel_al _ _); have SW : Hid (Src Tryz.prog 2 22 (.slice (some ⟨w4.heap.size, 0, none⟩) 1 1) 1 [.int .i64 ((k : Int) + 1), .string d2] (w4.alloc (.cells #[.int .i64 ((k : Int) + 1), .string d2] 24))) := src_entry w4 _ d2)
            | (at_builtin; refine wpList_append_cel _ rfl _ _ 22 22 rfl 24 ti _ 2 24 Tryz.underlying22 hi1 hi2 hi3 hi4 rfl (O := fun q => lb < q) (.slice a k c) k _ g rfl CW.out _ 1 [.int .i64 ((k : Int) + 1), .string d2] rfl SW.out (by unfold maxLen; omega) (by omega) ?_; intro a7 c7 w7 g7 hC7 hS7 hg7; have H7 : Hid (Ob w7 w.heap.size lb n0 (.slice a k c) ∧ Cel (fun z => lb < z) w7 2 (.slice a7 (k + 1) c7) (k + 1) (rowC enC (es ++ [⟨(k : Int) + 1, d2⟩])) g7 ∧ Below w.heap.size w w7) := of_app HB.out HC.out HL.out.bel (bel_tr B4.out (bel_al _ _)) hC7 hS7; clear hC7 hS7 hg7 u1; have u1 := H7.out.1.c1; have uf := H7.out.1.f0 1))
          go_roundw
          case rel =>
            refine ⟨k + 1, es ++ [⟨(k : Int) + 1, d2⟩], R2, rfl, ⟨a7, c7, g7, H7.out.1.putS _, H7.out.2.1.setOut _ _ (fun e => ?_)⟩, by simp [HLN.out], by omega, Below.setCell H7.out.2.2 (by have h9 := HB.out.lt; show w.heap.size ≤ lb; omega) _, HNX.out, HR2.out⟩
            have h8 := H7.out.2.1
            rw [e] at h8
            have h9 : lb < lb := h8.lt.2
            omega
          case measure =>
            have e1 : lenAt wr ⟨lb, 1, none⟩ = k := by unfold lenAt; rw [HB.out.c1]
            have e2 : lenAt (w7.setCell ⟨lb, 1, none⟩ (.slice a7 (k + 1) c7)) ⟨lb, 1, none⟩ = k + 1 := by unfold lenAt; rw [(H7.out.1.putS (.slice a7 (k + 1) c7)).c1]
            rw [e1, e2]
            omega
        · have hP : entryP b' ((k + 1 : Nat) : Int) = none := by
            unfold entryP
            rw [htp2]
            by_cases h1 : E2 = 0 ∧ ok2 = true
            · rw [if_pos h1]
              simp only
              rw [if_neg (fun h => hyes ⟨h1.1, h1.2, h.1, h.2⟩)]
            · rw [if_neg h1]
          have hto : tot = (es, b') := by
            have h1 := HL.out.go
            obtain ⟨f, hf⟩ : ∃ f, 300 - k = f + 1 := ⟨299 - k, by omega⟩
            rw [hf] at h1
            unfold goL at h1
            rw [HLN.out, hP] at h1
            exact h1.symm
          have HE2 : Hid _ := HEND.out hto
          have hcs : ¬ (E2 : Int) = 0 ∨ ((E2 : Int) = 0 ∧ ok2 = false) ∨ ((E2 : Int) = 0 ∧ ok2 = true ∧ ¬ n2 = (k : Int) + 1) ∨ ((E2 : Int) = 0 ∧ ok2 = true ∧ n2 = (k : Int) + 1 ∧ ¬ d2.size ≤ 600) := by
            by_cases h1 : E2 = 0
            · cases ok2 with
              | false => exact .inr (.inl ⟨by omega, rfl⟩)
              | true =>
                by_cases h2 : n2 = (k : Int) + 1
                · exact .inr (.inr (.inr ⟨by omega, rfl, h2, fun h => hyes ⟨h1, rfl, by omega, h⟩⟩))
                · exact .inr (.inr (.inl ⟨by omega, rfl, h2⟩))
            · exact .inl (by omega)
          have HCS2 : Hid (¬ (E2 : Int) = 0 ∨ ((E2 : Int) = 0 ∧ ok2 = false) ∨ ((E2 : Int) = 0 ∧ ok2 = true ∧ ¬ n2 = (k : Int) + 1) ∨ ((E2 : Int) = 0 ∧ ok2 = true ∧ n2 = (k : Int) + 1 ∧ ¬ d2.size ≤ 600)) := hcs
          clear hcs hP htp2 ht2 hO2 hsz2 hyes hto HEND
          generalize (E2 : Int) = EI at *
          go_wp2_with fail
          refine (HO2.out _).mono ?_
          rintro e w3 ⟨rfl, b3⟩
          have B3 : Hid (Below wr.heap.size wr w3) := b3
          clear b3
          go_wp2_with fail
          refine (HT2.out _).mono ?_
          rintro e w4 ⟨rfl, b4⟩
          have B4 : Hid (Below wr.heap.size wr w4) := bel_tr B3.out b4
          obtain ⟨hO4, q1, q2, q3, q4, q5⟩ := HE2.out w4 B4.out
          rw [he1] at q5
          subst q5
          have Q3 : Hid (ParR w.heap.size ⟨n0, tot.1⟩ false (.returned (.tuple #[.agg #[.int .i64 n0, .slice a k c], .bool false, .bool true])) ((w4.setCell ⟨w.heap.size, 0, none⟩ (.int .i64 n0)).setCell ⟨w.heap.size, 1, none⟩ (.slice a k c))) := q3
          have Q4 : Hid (Below w.heap.size w ((w4.setCell ⟨w.heap.size, 0, none⟩ (.int .i64 n0)).setCell ⟨w.heap.size, 1, none⟩ (.slice a k c))) := q4
          have c0' := hO4.c0
          have c1' := hO4.c1
          have hg0' := hO4.d0
          have hg1' := hO4.d1
          have f0' := hO4.f1 0
          have f1' := hO4.f1 1
          clear q3 q4 b4 hO4 HE2 HL HC HB HWE c0 c1 hg0 hg1 f0 f1
          rcases HCS2.out with h1 | ⟨rfl, rfl⟩ | ⟨rfl, rfl, h1⟩ | ⟨rfl, rfl, rfl, h1⟩
          · have hb1 : (EI == 0) = false := beq_eq_false_iff_ne.2 h1
            go_wp2
            refine bodyPost_ret (v := .tuple #[.agg #[.int .i64 n0, .slice a k c], .bool false, .bool true]) ?_ rfl ⟨Q3.out, Q4.out⟩
            simp only [results, Tryz.results54]
            simp [go_sem, q1, q2]
          all_goals
            go_wp2
            refine bodyPost_ret (v := .tuple #[.agg #[.int .i64 n0, .slice a k c], .bool false, .bool true]) ?_ rfl ⟨Q3.out, Q4.out⟩
            simp only [results, Tryz.results54]
            simp [go_sem, q1, q2]
      · obtain rfl : k = 300 := by omega
        have hto : tot = (es, b') := by
          have h1 := HL.out.go
          rw [Nat.sub_self] at h1
          exact h1.symm
        obtain ⟨_, q1, q2, q3, q4, q5⟩ := HEND.out hto wr (Below.refl _ _)
        rw [he1] at q5
        subst q5
        have Q3 : Hid (ParR w.heap.size ⟨n0, tot.1⟩ false (.returned (.tuple #[.agg #[.int .i64 n0, .slice a 300 c], .bool false, .bool true])) ((wr.setCell ⟨w.heap.size, 0, none⟩ (.int .i64 n0)).setCell ⟨w.heap.size, 1, none⟩ (.slice a 300 c))) := q3
        have Q4 : Hid (Below w.heap.size w ((wr.setCell ⟨w.heap.size, 0, none⟩ (.int .i64 n0)).setCell ⟨w.heap.size, 1, none⟩ (.slice a 300 c))) := q4
        clear hto q3 q4 HEND HL HC HB HWE
        go_wp2
        refine bodyPost_ret (v := .tuple #[.agg #[.int .i64 n0, .slice a 300 c], .bool false, .bool true]) ?_ rfl ⟨Q3.out, Q4.out⟩
        simp only [results, Tryz.results54]
        simp [go_sem, q1, q2]

end Go.Proofs.YtfmhmokbbkliaaaGreat.Lgg
