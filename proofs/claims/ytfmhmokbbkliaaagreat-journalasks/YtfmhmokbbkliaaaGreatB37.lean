/- Part 37 of the proof: JrnG2, JrnG3, JrnG4, JrnA3, JrnV, JrnE, JrnL1, JrnL2. -/
import Derived.Test.YtfmhmokbbkliaaaGreatB28
import Derived.Test.YtfmhmokbbkliaaaGreatB31
import Derived.Test.YtfmhmokbbkliaaaGreatB32
import Derived.Test.YtfmhmokbbkliaaaGreatB33
import Derived.Test.YtfmhmokbbkliaaaGreatB34
import Derived.Test.YtfmhmokbbkliaaaGreatB35
import Derived.Test.YtfmhmokbbkliaaaGreatB36
import Derived.BigQuiet
import Derived.BigRegion
import Derived.Deep.DeepCutAuto
import Derived.Defers
import Derived.Lib.QuietBelow
import Derived.Recover

/- The contracts of slices.Equal at texts, and of journal.takeAnswer. -/
namespace Go.Proofs.YtfmhmokbbkliaaaGreat.Jrn
open Go.RowKit Go.Proofs.YtfmhmokbbkliaaaGreat Go.Proofs.YtfmhmokbbkliaaaGreat.Wir Go.Proofs.YtfmhmokbbkliaaaGreat.Lgg Go.Proofs.YtfmhmokbbkliaaaGreat.Sep
open Go.Proofs.YtfmhmokbbkliaaaGreat.Smm (bytes_ne)
set_option linter.unusedVariables false

theorem take_eq_stepS {ss tt : List ByteArray} {k : Nat} (hs : k < ss.length) (ht : k < tt.length) (h : ss.take k = tt.take k) (e : ss[k] = tt[k]) : ss.take (k + 1) = tt.take (k + 1) := by
  rw [List.take_succ_eq_append_getElem hs, List.take_succ_eq_append_getElem ht, h, e]
set_option maxRecDepth 100000 in
set_option maxHeartbeats 1000000 in
theorem equalS_val (a a' : Option Addr) (b off cap b' off' cap' n m : Nat) (ss tt : List ByteArray) (v : Bool) (w : World) (hS : Strs w a b off ss) (hT : Strs w a' b' off' tt) (hn : ss.length = n) (hm : tt.length = m) (hv : decide (ss = tt) = v) :
    Calls Tryz.prog 98 #[.slice a n cap, .slice a' m cap'] w fun e w' => e = .returned (.bool v) ∧ Below w.heap.size w w' := by
  have hml := hS.len
  unfold maxLen at hml
  by_cases hnm : n = m
  case neg =>
    have hvf : v = false := by
      rw [← hv, decide_eq_false_iff_not]
      intro e; subst e; exact hnm (hn.symm.trans hm)
    subst hvf
    clear hS hT hn hm hv hml
    go_enter Tryz.func98, Tryz.ntmps98
    go_wp2
    go_ret
    exact ⟨rfl, Below.refl _ _⟩
  case pos =>
  subst hnm
  have HN : Hid (ss.length = n) := hn
  have HN' : Hid (tt.length = n) := hm
  have HV : Hid (decide (ss = tt) = v) := hv
  have HS : Hid (Strs w a b off ss) := hS
  have HT : Hid (Strs w a' b' off' tt) := hT
  have hnm : n ≤ 9223372036854775807 := by omega
  clear hn hm hv hS hT hml
  go_enter Tryz.func98, Tryz.ntmps98
  go_wp2
  go_loopw [13] (fun c wr => ∃ k q : Nat, k ≤ n ∧ c = .int .i64 k ∧ ss.take k = tt.take k ∧ wr = w.drewN q) (fun c _ => n - (intOf c).toNat)
  case atStart => exact ⟨0, 0, by omega, rfl, by simp, rfl⟩
  case round =>
    obtain ⟨k, q, hk, rfl, hE, hw⟩ := hrel
    have E : Hid (ss.take k = tt.take k) := hE
    have HW : Hid (wr = w.drewN q) := hw
    have hb : Below w.heap.size w wr := by rw [hw]; exact bel_dr _ _
    clear hE hw
    by_cases hlt : k < n
    · have hks : k < ss.length := by rw [HN.out]; exact hlt
      have hkt : k < tt.length := by rw [HN'.out]; exact hlt
      have ha := HS.out.addr (by omega)
      have ha' := HT.out.addr (by omega)
      subst ha
      subst ha'
      have hc1 := bel_cell hb (HS.out.cell k hks)
      have hc2 := bel_cell hb (HT.out.cell k hkt)
      have hlt' : (k : Int) < (n : Int) := by omega
      obtain ⟨x, hx⟩ : ∃ x, ss[k] = x := ⟨_, rfl⟩
      obtain ⟨y, hy⟩ : ∃ y, tt[k] = y := ⟨_, rfl⟩
      rw [hx] at hc1
      rw [hy] at hc2
      by_cases he : x = y
      · have E2 : Hid (ss.take (k + 1) = tt.take (k + 1)) := take_eq_stepS hks hkt E.out (by rw [hx, hy, he])
        subst he
        clear E hx hy hb
        go_wp2
        go_quiet (fail)
        go_wp2
        go_roundw
        case rel => exact ⟨k + 1, q + nq, by omega, by go_num, E2.out, by rw [HW.out, World.drewN_drewN]⟩
        case measure => simp [intOf]; omega
      · have HF : Hid (v = false) := by
          show _ = _
          rw [← HV.out, decide_eq_false_iff_not]
          intro e; subst e; exact he (by rw [← hx, ← hy])
        have hne := bytes_ne he
        clear E hx hy hb he
        go_wp2
        go_quiet (fail)
        go_wp2
        go_ret
        exact ⟨by rw [HF.out]; rfl, by rw [HW.out, World.drewN_drewN]; exact bel_dr _ _⟩
    · have HT2 : Hid (v = true) := by
        show _ = _
        rw [← HV.out, decide_eq_true_eq]
        have h := E.out
        rw [List.take_of_length_le (by have := HN.out; omega), List.take_of_length_le (by have := HN'.out; omega)] at h
        exact h
      clear hb
      go_wp2
      go_ret
      exact ⟨by rw [HT2.out]; rfl, by rw [HW.out]; exact bel_dr _ _⟩

theorem sjoinC_any (a : Option Addr) (b off cap n : Nat) (ss : List ByteArray) (w : World) (hS : Strs w a b off ss) (hn : ss.length = n) (hcap : n ≤ cap) (hl : n ≤ 1000) (hx : ∀ x ∈ ss, x.size ≤ 4000) :
    Calls Tryz.prog 97 #[.slice a n cap, .string ⟨#[]⟩] w fun e w' => e = .returned (.string (catL ss)) ∧ Below w.heap.size w w' := by
  subst hn
  have hj : (⟨(Lib.join (ss.map (·.data.toList)) (⟨#[]⟩ : ByteArray).data.toList).toArray⟩ : ByteArray) = catL ss := by
    show (⟨(Lib.join (ss.map (·.data.toList)) []).toArray⟩ : ByteArray) = _
    rw [join_flat]; rfl
  cases ss with
  | nil =>
    refine (strings_Join_none a cap ⟨#[]⟩ w).mono ?_
    rintro e w1 ⟨rfl, rfl⟩
    exact ⟨rfl, Below.refl _ _⟩
  | cons s r =>
    obtain rfl := hS.addr (by simp)
    have hc := cat_size (s :: r) hx
    rw [← hj] at hc ⊢
    rw [mk_size] at hc
    refine strings_Join b off cap (s :: r) ⟨#[]⟩ w (fun j x hj => ?_) (hS.lt (by simp)) (by omega) hcap (by omega)
    obtain ⟨h1, h2⟩ := List.getElem?_eq_some_iff.1 hj
    rw [hS.cell j h1, h2]

/-- What becomes of an answer's texts. -/
structure TldR (base : Nat) (ep er : Int) (es : List En) (e : Ending) (w' : World) : Prop where
  ex : ∃ a c g, e = .returned (.agg #[.int .i64 ep, .slice a es.length c, .int .i64 er]) ∧ Cel (fun q => base ≤ q) w' 2 (.slice a es.length c) es.length (rowC enC es) g
def AnsO (base : Nat) (r : Option (Lg × Int)) (e : Ending) (w' : World) : Prop := match r with
  | none => e = leftV
  | some (l, er) => TldR base l.ep er l.es e w'

set_option maxRecDepth 100000 in
set_option maxHeartbeats 1000000 in
theorem ans_none {w : World} (a : Option Addr) (c : Nat) : Calls Tryz.prog 51 #[.slice a 0 c] w fun e w' => e = leftV ∧ Below w.heap.size w w' := by
  have HF : Hid (∀ W, Calls Tryz.prog 94 #[.bool false] W fun e w' => e = leftV ∧ w' = W) := need_no
  go_enter Tryz.func51, Tryz.ntmps51
  go_wp2_with (go_at_call 94; refine (HF.out _).mono ?_; rintro e wy ⟨rfl, rfl⟩)
  exact ⟨rfl, rfl, bel_al _ _⟩

theorem strs_drop1 {w : World} {b off : Nat} {x : ByteArray} {ss : List ByteArray} (h : Strs w (some ⟨b, off, none⟩) b off (x :: ss)) : Strs w (some ⟨b, off + 1, none⟩) b (off + 1) ss := by
  refine ⟨fun _ => rfl, fun j hj => ?_, fun s hs => h.small s (by simp [hs]), by have := h.len; simp at this; omega⟩
  have h1 := h.cell (j + 1) (by simp; omega)
  rw [show off + 1 + j = off + (j + 1) by omega, h1]
  rfl

end Go.Proofs.YtfmhmokbbkliaaaGreat.Jrn

/- The contract of journal.takeAnswer, where there is a text. -/
namespace Go.Proofs.YtfmhmokbbkliaaaGreat.Jrn
open Go.RowKit Go.Proofs.YtfmhmokbbkliaaaGreat Go.Proofs.YtfmhmokbbkliaaaGreat.Wir Go.Proofs.YtfmhmokbbkliaaaGreat.Lgg Go.Proofs.YtfmhmokbbkliaaaGreat.Sep
set_option linter.unusedVariables false

/-- What is told, in a box. -/
structure Tld3 (W : World) (b : Nat) (ep : Int) (s : Value) (er : Int) : Prop where
  c0 : W.cell? ⟨b, 0, none⟩ = some (.int .i64 ep)
  c1 : W.cell? ⟨b, 1, none⟩ = some s
  c2 : W.cell? ⟨b, 2, none⟩ = some (.int .i64 er)
  fr : ∀ j, W.frozen? ⟨b, j, none⟩ = false
section
variable {W W' : World} {b : Nat} {ep er : Int} {s : Value}
theorem Tld3.below (h : Tld3 W b ep s er) (hb : Below W.heap.size W W') : Tld3 W' b ep s er := by
  have e := hb.block b (World.block_lt_of_cell? _ _ h.c0)
  exact ⟨(World.cell?_of_block (a := ⟨b, 0, none⟩) e).trans h.c0, (World.cell?_of_block (a := ⟨b, 1, none⟩) e).trans h.c1, (World.cell?_of_block (a := ⟨b, 2, none⟩) e).trans h.c2, fun j => (World.frozen?_of_block (a := ⟨b, j, none⟩) e).trans (h.fr j)⟩
theorem Tld3.new (W : World) (ep : Int) (s : Value) (er : Int) (T : TypeId) : Tld3 (W.alloc (.cells #[.int .i64 ep, s, .int .i64 er] T)) W.heap.size ep s er :=
  ⟨World.cell?_alloc_new W _ _ 0, World.cell?_alloc_new W _ _ 1, World.cell?_alloc_new W _ _ 2, fun j => World.frozen?_alloc_new W _ _ j⟩
theorem Tld3.sets (h : Tld3 W b ep s er) (ep' : Int) (s' : Value) (er' : Int) : Tld3 (((W.setCell ⟨b, 0, none⟩ (.int .i64 ep')).setCell ⟨b, 1, none⟩ s').setCell ⟨b, 2, none⟩ (.int .i64 er')) b ep' s' er' :=
  ⟨cell_set (by omega) (cell_set (by omega) (World.cell?_setCell_same _ _ _ h.c0)), cell_set (by omega) (World.cell?_setCell_same _ _ _ (cell_set (by omega) h.c1)), World.cell?_setCell_same _ _ _ (cell_set (by omega) (cell_set (by omega) h.c2)),
    fun j => by rw [World.frozen?_setCell, World.frozen?_setCell, World.frozen?_setCell]; exact h.fr j⟩
end
/-- The end: what is told is laid into the result. -/
theorem finT {w W : World} {RB n : Nat} {ep er : Int} {a : Option Addr} {c : Nat} {es : List En} {g : Option Nat} (hn : es.length = n) (hT : Tld3 W RB 0 (.slice none 0 0) 0) (hC : Cel (fun q => RB < q) W 2 (.slice a n c) n (rowC enC es) g) (hb : Below w.heap.size w W) (hR : w.heap.size = RB) :
    Tld3 (((W.setCell ⟨RB, 0, none⟩ (.int .i64 ep)).setCell ⟨RB, 1, none⟩ (.slice a n c)).setCell ⟨RB, 2, none⟩ (.int .i64 er)) RB ep (.slice a n c) er ∧
    Cel (fun q => w.heap.size ≤ q) (((W.setCell ⟨RB, 0, none⟩ (.int .i64 ep)).setCell ⟨RB, 1, none⟩ (.slice a n c)).setCell ⟨RB, 2, none⟩ (.int .i64 er)) 2 (.slice a es.length c) es.length (rowC enC es) g ∧
    Below w.heap.size w (((W.setCell ⟨RB, 0, none⟩ (.int .i64 ep)).setCell ⟨RB, 1, none⟩ (.slice a n c)).setCell ⟨RB, 2, none⟩ (.int .i64 er)) := by
  subst hn
  have hs := stay_sets W RB (.int .i64 ep) (.slice a es.length c) (.int .i64 er)
  refine ⟨hT.sets ep _ er, hC.stay hs.size (fun q hq => hs.block q (by rw [hq] at hC; exact hC.lt.1) (fun e => by rw [hq] at hC; have h9 : RB < q := hC.lt.2; omega)) (fun q hq => by have h9 : RB < q := hq; omega), hb.trans (hs.below hb.size (fun x hx => by omega))⟩

set_option maxRecDepth 100000 in
set_option maxHeartbeats 2000000 in
theorem ans_any {w : World} {a : Option Addr} {b off : Nat} {t : ByteArray} {rest : List ByteArray} (h : Strs w a b off (t :: rest)) (m q : Nat) (hm : rest.length = m) (hq : m ≤ q) (hm3 : m ≤ 1000) (hx : ∀ x ∈ rest, x.size ≤ 4000) (r : Option (Lg × Int)) (HQ : ansP (t :: rest) = r) :
    Calls Tryz.prog 51 #[.slice a (1 + m) (1 + q)] w fun x w' => AnsO w.heap.size r x w' ∧ Below w.heap.size w w' := by
  obtain rfl := h.addr (by simp)
  have c0 : w.cell? ⟨b, off, none⟩ = some (.string t) := h.cell 0 (by simp)
  have hts := h.small t (by simp)
  have hi0 : (0 : Int) < 1 + (m : Int) := by omega
  have hd1 : decide ((1 : Int) ≤ 1 + (m : Int)) = true := decide_eq_true (by omega)
  have HY : Hid (∀ W, Calls Tryz.prog 94 #[.bool true] W fun e w' => e = .returned (.tuple #[]) ∧ w' = W) := need_yes
  have HF : Hid (∀ W, Calls Tryz.prog 94 #[.bool false] W fun e w' => e = leftV ∧ w' = W) := need_no
  have hst := fun (w : World) (a : Addr) (x : ByteArray) (m : Mode) => run_store (P := Tryz.prog) w a (.string x) m rfl
  have hst2 : ∀ (w : World) (a : Addr) (x : Option Addr) (n c : Nat) (m : Mode), (store a (.slice x n c) m).run Tryz.prog w = stored Tryz.prog w a (.slice x n c) m := fun w a x n c m => run_store (P := Tryz.prog) w a _ m rfl
  have A1 := Tld3.new w 0 (.slice none 0 0) 0 81
  have B1 : Hid (Below w.heap.size w (w.alloc (.cells #[.int .i64 0, .slice none 0 0, .int .i64 0] 81))) := bel_al _ _
  have hz1 : (w.alloc (.cells #[.int .i64 0, .slice none 0 0, .int .i64 0] 81)).heap.size = w.heap.size + 1 := by simp
  have d0 := bel_cell B1.out c0
  obtain ⟨RB, hRB⟩ : ∃ RB, w.heap.size = RB := ⟨_, rfl⟩
  have HRB : Hid (w.heap.size = RB) := hRB
  simp only [hRB] at A1
  go_enter Tryz.func51, Tryz.ntmps51
  go_upto_region 1 with fail
  try simp only [hRB]
  generalize w.alloc (.cells #[.int .i64 0, .slice none 0 0, .int .i64 0] 81) = W1 at *
  have HA1 : Hid (Tld3 W1 RB 0 (.slice none 0 0) 0) := A1
  have HZ1 : Hid (W1.heap.size = w.heap.size + 1) := hz1
  have HSS : Hid (Strs w (some ⟨b, off, none⟩) b off (t :: rest)) := h
  clear A1 hz1 c0 h hRB
  cases hnum : numP t with
  | none =>
    have hr : r = none := by rw [← HQ]; simp only [ansP, hnum]
    subst hr
    have CN : Hid (∀ W, Calls Tryz.prog 95 #[.string t] W fun x w' => x = leftV ∧ Below W.heap.size W w') := fun W => takeNumber_no t hts hnum W
    clear HQ hnum hts
    go_wp2_with (first
      | (go_at_call 94; refine (HY.out _).mono ?_; rintro x wy ⟨rfl, hwy⟩; have hwy2 := hwy.symm; clear hwy; subst hwy2)
      | (go_at_call 95; refine (CN.out _).mono ?_; rintro x w2 ⟨rfl, b2⟩))
    exact ⟨rfl, rfl, bel_tr B1.out b2⟩
  | some e =>
    have CN : Hid (∀ W, Calls Tryz.prog 95 #[.string t] W fun x w' => x = .returned (.int .i64 e) ∧ Below W.heap.size W w') := fun W => takeNumber_yes t hts e hnum W
    have hq1 : r = if 0 ≤ e ∧ e ≤ 14 then (if rest.length = 0 then some (⟨0, []⟩, e) else if e = 0 then logP rest else none) else none := by rw [← HQ]; simp only [ansP, hnum]
    have HR : Hid (r = if 0 ≤ e ∧ e ≤ 14 then (if rest.length = 0 then some (⟨0, []⟩, e) else if e = 0 then logP rest else none) else none) := hq1
    clear HQ hnum hts hq1
    by_cases he0 : 0 ≤ e
    case neg =>
      have hd0 : decide (0 ≤ e) = false := decide_eq_false he0
      have hr : r = none := by rw [HR.out, if_neg (fun k => he0 k.1)]
      subst hr
      clear HR
      go_wp2_with (first
        | (go_at_call 94; refine (HY.out _).mono ?_; rintro x wy ⟨rfl, hwy⟩; have hwy2 := hwy.symm; clear hwy; subst hwy2)
        | (go_at_call 94; refine (HF.out _).mono ?_; rintro x wy ⟨rfl, hwy⟩; have hwy2 := hwy.symm; clear hwy; subst hwy2)
        | (go_at_call 95; refine (CN.out _).mono ?_; rintro x w2 ⟨rfl, b2⟩; have B2 : Hid (Below w.heap.size w w2) := bel_tr B1.out b2; clear b2))
      exact ⟨rfl, rfl, B2.out⟩
    case pos =>
    have hd0 : decide (0 ≤ e) = true := decide_eq_true he0
    by_cases he1 : e ≤ 14
    case neg =>
      have hd9 : decide (e ≤ 14) = false := decide_eq_false he1
      have hr : r = none := by rw [HR.out, if_neg (fun k => he1 k.2)]
      subst hr
      clear HR
      go_wp2_with (first
        | (go_at_call 94; refine (HY.out _).mono ?_; rintro x wy ⟨rfl, hwy⟩; have hwy2 := hwy.symm; clear hwy; subst hwy2)
        | (go_at_call 94; refine (HF.out _).mono ?_; rintro x wy ⟨rfl, hwy⟩; have hwy2 := hwy.symm; clear hwy; subst hwy2)
        | (go_at_call 95; refine (CN.out _).mono ?_; rintro x w2 ⟨rfl, b2⟩; have B2 : Hid (Below w.heap.size w w2) := bel_tr B1.out b2; clear b2))
      exact ⟨rfl, rfl, B2.out⟩
    case pos =>
    have hd9 : decide (e ≤ 14) = true := decide_eq_true he1
    have HR2 : Hid (r = if m = 0 then some (⟨0, []⟩, e) else if e = 0 then logP rest else none) := by show _ = _; rw [HR.out, if_pos ⟨he0, he1⟩, hm]
    clear HR
    go_upto_region 4 with (first
      | (go_at_call 94; refine (HY.out _).mono ?_; rintro x wy ⟨rfl, hwy⟩; have hwy2 := hwy.symm; clear hwy; subst hwy2)
      | (go_at_call 95; refine (CN.out _).mono ?_; rintro x w2 ⟨rfl, b2⟩; have B2 : Hid (Below W1.heap.size W1 w2) := b2; clear b2))
    have HA2 : Hid (Tld3 w2 RB 0 (.slice none 0 0) 0) := HA1.out.below B2.out
    have HBW : Hid (Below w.heap.size w w2) := bel_tr B1.out B2.out
    have HLT : Hid (RB < w2.heap.size) := World.block_lt_of_cell? _ _ HA2.out.c0
    clear d0 HA1 B1 B2
    go_cut [4] (fun v wx => ∃ a2 b2 off2, v = .slice a2 m q ∧ Strs w2 a2 b2 off2 rest ∧ wx = w2)
    case first =>
      have hS2 := strs_drop1 (HSS.out.below HBW.out)
      by_cases hq0 : q = 0
      · subst hq0
        obtain rfl : m = 0 := by omega
        obtain rfl : rest = [] := List.length_eq_zero_iff.1 hm
        clear hS2
        go_wp2
        go_meet
        case rel => exact ⟨_, 0, 0, rfl, ⟨fun h => (by simp at h), fun j h => (by simp at h), fun s h => (by simp at h), (by show 0 ≤ maxLen; omega)⟩, rfl⟩
      · have hS9 : Hid (Strs w2 (some ⟨b, off + 1, none⟩) b (off + 1) rest) := hS2
        clear hS2
        go_wp2
        go_meet
        case rel => exact ⟨_, _, _, rfl, hS9.out, rfl⟩
    case rest =>
    obtain ⟨a2, b2, off2, rfl, hS, hw⟩ := hcut
    obtain rfl : w2 = wc := hw.symm
    have HS2 : Hid (Strs w2 a2 b2 off2 rest) := hS
    clear hS HSS hw
    by_cases hm0 : m = 0
    · subst hm0
      have hr : r = some (⟨0, []⟩, e) := by rw [HR2.out]; rfl
      subst hr
      have g0 := HA2.out.c0
      have g1 := HA2.out.c1
      have g2 := HA2.out.c2
      have f0 := HA2.out.fr 0
      have f1 := HA2.out.fr 1
      have f2 := HA2.out.fr 2
      go_wp2_with (go_at_call 94; refine (HY.out _).mono ?_; rintro x wy ⟨rfl, hwy⟩; have hwy2 := hwy.symm; clear hwy; subst hwy2)
      obtain ⟨F1, F2, F3⟩ := finT (ep := 0) (er := e) (es := []) (n := 0) (a := none) (c := 0) rfl HA2.out (.nil rfl rfl rfl) HBW.out HRB.out
      refine bodyPost_ret (v := .agg #[.int .i64 0, .slice none 0 0, .int .i64 e]) ?_ rfl ⟨⟨_, _, _, rfl, F2⟩, F3⟩
      simp only [results, Tryz.results51]
      have F10 := F1.c0
      have F11 := F1.c1
      have F12 := F1.c2
      simp [go_sem, F10, F11, F12]
    · have hm0b : ((m : Int) == 0) = false := beq_eq_false_iff_ne.2 (by omega)
      have hm0i : ¬ (m : Int) = 0 := by omega
      by_cases hez : e = 0
      case neg =>
        have hr : r = none := by rw [HR2.out, if_neg hm0, if_neg hez]
        have hezb : (e == 0) = false := beq_eq_false_iff_ne.2 hez
        subst hr
        clear HR2
        go_wp2_with (go_at_call 94; refine (HF.out _).mono ?_; rintro x wy ⟨rfl, hwy⟩; have hwy2 := hwy.symm; clear hwy; subst hwy2)
        exact ⟨rfl, rfl, HBW.out⟩
      case pos =>
      have HR3 : Hid (r = logP rest) := by show _ = _; rw [HR2.out, if_neg hm0, if_pos hez]
      subst hez
      clear HR2
      have CJ : Hid (Calls Tryz.prog 97 #[.slice a2 m q, .string ⟨#[]⟩] w2 fun x w' => x = .returned (.string (catL rest)) ∧ Below w2.heap.size w2 w') := sjoinC_any a2 b2 off2 q m rest w2 HS2.out hm hq hm3 hx
      have hcs := cat_size rest hx
      cases hp : parseL (catL rest) with
      | none =>
        have hr : r = none := by rw [HR3.out]; unfold logP; rw [hp]
        subst hr
        have CT : Hid (∀ W, Calls Tryz.prog 96 #[.string (catL rest)] W fun x w' => x = leftV ∧ Below W.heap.size W w') := fun W => takeLog_no _ (by omega) (.inr hp) W
        clear HR3 hp hcs
        generalize catL rest = X at *
        go_wp2_with (first
          | (go_at_call 94; refine (HY.out _).mono ?_; rintro x wy ⟨rfl, hwy⟩; have hwy2 := hwy.symm; clear hwy; subst hwy2)
          | (go_at_call 97; refine CJ.out.mono ?_; rintro x w3 ⟨rfl, b3⟩; have B3 : Hid (Below w.heap.size w w3) := bel_tr HBW.out b3; clear b3)
          | (go_at_call 96; refine (CT.out _).mono ?_; rintro x w4 ⟨rfl, b4⟩; have B4 : Hid (Below w.heap.size w w4) := bel_tr B3.out b4; clear b4))
        exact ⟨rfl, rfl, B4.out⟩
      | some lr =>
        obtain ⟨l, R⟩ := lr
        have hlR := parse_right hp
        by_cases h4 : (catL rest).size ≤ 400000
        case neg =>
          have hr : r = none := by
            rw [HR3.out]; unfold logP; rw [hp]; simp only
            rw [if_neg (fun e => ?_)]
            have h9 := pieces_cat (encL l).size _ (Nat.le_refl _)
            rw [e] at h9
            have := enc_bound hlR
            rw [h9] at h4
            omega
          subst hr
          have CT : Hid (∀ W, Calls Tryz.prog 96 #[.string (catL rest)] W fun x w' => x = leftV ∧ Below W.heap.size W w') := fun W => takeLog_no _ (by omega) (.inl (by omega)) W
          clear HR3 hp hcs h4
          generalize catL rest = X at *
          go_wp2_with (first
            | (go_at_call 94; refine (HY.out _).mono ?_; rintro x wy ⟨rfl, hwy⟩; have hwy2 := hwy.symm; clear hwy; subst hwy2)
            | (go_at_call 97; refine CJ.out.mono ?_; rintro x w3 ⟨rfl, b3⟩; have B3 : Hid (Below w.heap.size w w3) := bel_tr HBW.out b3; clear b3)
            | (go_at_call 96; refine (CT.out _).mono ?_; rintro x w4 ⟨rfl, b4⟩; have B4 : Hid (Below w.heap.size w w4) := bel_tr B3.out b4; clear b4))
          exact ⟨rfl, rfl, B4.out⟩
        case pos =>
        have CT : Hid (∀ W, Calls Tryz.prog 96 #[.string (catL rest)] W fun x w' => LogC W.heap.size l x w' ∧ Below W.heap.size W w') := fun W => takeLog_yes _ h4 l R hp W
        obtain ⟨v, hv⟩ : ∃ v, decide (piecesL (encL l) = rest) = v := ⟨_, rfl⟩
        have HR4 : Hid (r = if v = true then some (l, 0) else none) := by
          show _ = _
          rw [HR3.out]; unfold logP; rw [hp]; simp only
          rw [← hv]
          by_cases hpe : piecesL (encL l) = rest
          · rw [if_pos hpe, if_pos (decide_eq_true hpe)]
          · rw [if_neg hpe, if_neg (by simp [hpe])]
        have hsz := pieces_size (encL l).size _ (Nat.le_refl _)
        have hle := enc_bound hlR
        obtain ⟨ep, es⟩ := l
        obtain ⟨n, hn⟩ : ∃ n, es.length = n := ⟨_, rfl⟩
        have HN : Hid (es.length = n) := hn
        have HLR : Hid (RtL ⟨ep, es⟩) := hlR
        have HV : Hid (decide (piecesL (encL ⟨ep, es⟩) = rest) = v) := hv
        have HSZ : Hid (∀ p ∈ piecesL (encL ⟨ep, es⟩), p.size ≤ maxLen) := fun p hp => by have := hsz.1 p hp; unfold maxLen; omega
        have HM : Hid (rest.length = m) := hm
        clear HR3 hp hcs h4 hsz hle hlR hv hn hm hx
        generalize catL rest = X at *
        go_upto_region 9 with (first
          | (go_at_call 94; refine (HY.out _).mono ?_; rintro x wy ⟨rfl, hwy⟩; have hwy2 := hwy.symm; clear hwy; subst hwy2)
          | (go_at_call 97; refine CJ.out.mono ?_; rintro x w3 ⟨rfl, b3⟩; have B3 : Hid (Below w2.heap.size w2 w3) := b3; clear b3)
          | (go_at_call 96; refine (CT.out _).mono ?_; rintro x w4 ⟨⟨ea, ec, eg, hxe, hC⟩, b4⟩; simp only at hxe hC; rw [HN.out] at hxe hC; subst hxe; have B4 : Hid (Below w2.heap.size w2 w4) := bel_tr B3.out b4; have HC4 : Hid (Cel (fun z => w3.heap.size ≤ z) w4 2 (.slice ea n ec) n (rowC enC es) eg) := hC; clear b4 hC))
        have hbx := bel_al w4 (.cells #[.int .i64 ep, .slice ea n ec] 34)
        obtain ⟨y0, y1, _, _⟩ := cells2 w4 (.int .i64 ep) (.slice ea n ec) 34
        have B5 : Hid (Below w2.heap.size w2 (w4.alloc (.cells #[.int .i64 ep, .slice ea n ec] 34))) := bel_tr B4.out hbx
        have HC5 : Hid (Cel (fun z => RB < z) (w4.alloc (.cells #[.int .i64 ep, .slice ea n ec] 34)) 2 (.slice ea n ec) n (rowC enC es) eg) := (HC4.out.below hbx).stay (Nat.le_refl _) (fun _ _ => rfl) (fun z hz => by have h9 : w3.heap.size ≤ z := hz; have h8 := B3.out.size; have := HLT.out; omega)
        clear hbx HC4
        generalize w4.alloc (.cells #[.int .i64 ep, .slice ea n ec] 34) = W5 at *
        generalize w4.heap.size = LB at *
        have CP : Hid (∀ W, Below W5.heap.size W5 W → Calls Tryz.prog 69 #[.agg #[.int .i64 ep, .slice ea n ec]] W fun e w' => StrR W.heap.size (piecesL (encL ⟨ep, es⟩)) e w' ∧ Below W.heap.size W w') := fun W hb => by
          have h9 : Cel (fun z => RB < z) W5 2 (.slice ea es.length ec) es.length (rowC enC es) eg := by rw [HN.out]; exact HC5.out
          exact pieces_val ((Lie.of_cel wideN h9).below hb) ep n ec HN.out HLR.out _ rfl
        cases v with
        | false =>
          have hr : r = none := by rw [HR4.out]; simp
          subst hr
          go_wp2_with (first
            | (go_at_call 94; refine (HF.out _).mono ?_; rintro x wy ⟨rfl, hwy⟩; have hwy2 := hwy.symm; clear hwy; subst hwy2)
            | (go_at_call 69; refine (CP.out _ (Below.refl _ _)).mono ?_; rintro x w6 ⟨⟨pa, pc, pg, rfl, hPC⟩, b6⟩; have B6 : Hid (Below w2.heap.size w2 w6) := bel_tr B5.out b6; have CE : Hid (Calls Tryz.prog 98 #[.slice pa (piecesL (encL ⟨ep, es⟩)).length pc, .slice a2 m q] w6 fun e w' => e = .returned (.bool false) ∧ Below w6.heap.size w6 w') := (by obtain ⟨_, pb, hPS⟩ := strs_of_cel hPC HSZ.out; exact equalS_val pa a2 pb 0 pc b2 off2 q _ m _ rest false w6 hPS (HS2.out.below B6.out) rfl HM.out HV.out); clear b6 hPC)
            | (go_at_call 98; refine CE.out.mono ?_; rintro x w7 ⟨rfl, b7⟩; have B7 : Hid (Below w2.heap.size w2 w7) := bel_tr B6.out b7; clear b7))
          exact ⟨rfl, rfl, bel_tr HBW.out B7.out⟩
        | true =>
          have hr : r = some (⟨ep, es⟩, 0) := by rw [HR4.out]; simp
          subst hr
          go_upto_region 10 with (first
            | (go_at_call 94; refine (HY.out _).mono ?_; rintro x wy ⟨rfl, hwy⟩; have hwy2 := hwy.symm; clear hwy; subst hwy2)
            | (go_at_call 69; refine (CP.out _ (Below.refl _ _)).mono ?_; rintro x w6 ⟨⟨pa, pc, pg, rfl, hPC⟩, b6⟩; have B6 : Hid (Below W5.heap.size W5 w6) := b6; have CE : Hid (Calls Tryz.prog 98 #[.slice pa (piecesL (encL ⟨ep, es⟩)).length pc, .slice a2 m q] w6 fun e w' => e = .returned (.bool true) ∧ Below w6.heap.size w6 w') := (by obtain ⟨_, pb, hPS⟩ := strs_of_cel hPC HSZ.out; exact equalS_val pa a2 pb 0 pc b2 off2 q _ m _ rest true w6 hPS (HS2.out.below (bel_tr B5.out B6.out)) rfl HM.out HV.out); clear b6 hPC)
            | (go_at_call 98; refine CE.out.mono ?_; rintro x w7 ⟨rfl, b7⟩; have B7 : Hid (Below W5.heap.size W5 w7) := bel_tr B6.out b7; clear b7))
          have x0 := bel_cell B7.out y0
          have x1 := bel_cell B7.out y1
          have HA7 : Hid (Tld3 w7 RB 0 (.slice none 0 0) 0) := (HA2.out.below B5.out).below B7.out
          have HC7 : Hid (Cel (fun z => RB < z) w7 2 (.slice ea n ec) n (rowC enC es) eg) := HC5.out.below B7.out
          have HB7 : Hid (Below w.heap.size w w7) := bel_tr HBW.out (bel_tr B5.out B7.out)
          have g0 := HA7.out.c0
          have g1 := HA7.out.c1
          have g2 := HA7.out.c2
          have f0 := HA7.out.fr 0
          have f1 := HA7.out.fr 1
          have f2 := HA7.out.fr 2
          go_wp2
          obtain ⟨F1, F2, F3⟩ := finT (ep := ep) (er := 0) HN.out HA7.out HC7.out HB7.out HRB.out
          refine bodyPost_ret (v := .agg #[.int .i64 ep, .slice ea n ec, .int .i64 0]) ?_ rfl ⟨⟨ea, ec, eg, by simp only [HN.out], F2⟩, F3⟩
          simp only [results, Tryz.results51]
          have F10 := F1.c0
          have F11 := F1.c1
          have F12 := F1.c2
          simp [go_sem, F10, F11, F12]

end Go.Proofs.YtfmhmokbbkliaaaGreat.Jrn

/- The contract of journal.taken, at answers. -/
namespace Go.Proofs.YtfmhmokbbkliaaaGreat.Jrn
open Go.RowKit Go.Proofs.YtfmhmokbbkliaaaGreat Go.Proofs.YtfmhmokbbkliaaaGreat.Wir Go.Proofs.YtfmhmokbbkliaaaGreat.Lgg
set_option linter.unusedVariables false

/-- An answer that was taken, in new memory. -/
structure TkT (base : Nat) (ep er : Int) (es : List En) (e : Ending) (w' : World) : Prop where
  ex : ∃ a c g, e = .returned (.tuple #[.agg #[.int .i64 ep, .slice a es.length c, .int .i64 er], .int .i64 0]) ∧ Cel (fun q => base ≤ q) w' 2 (.slice a es.length c) es.length (rowC enC es) g

theorem takeAnswer_any {w : World} {a : Option Addr} {b off : Nat} {ts : List ByteArray} (h : Strs w a b off ts) (n c : Nat) (hn : ts.length = n) (hc : n ≤ c) (hl : n ≤ 1000) (hx : ∀ x ∈ ts, x.size ≤ 4000) :
    Calls Tryz.prog 51 #[.slice a n c] w fun x w' => AnsO w.heap.size (ansP ts) x w' ∧ Below w.heap.size w w' := by
  match ts, hn with
  | [], hn =>
    obtain rfl : n = 0 := by simpa using hn.symm
    exact ans_none a c
  | t :: rest, hn =>
    obtain ⟨q, rfl⟩ : ∃ q, c = 1 + q := ⟨c - 1, by simp at hn; omega⟩
    obtain ⟨m, rfl⟩ : ∃ m, n = 1 + m := ⟨n - 1, by simp at hn; omega⟩
    exact ans_any h m q (by simp at hn; omega) (by omega) (by omega) (fun x hx2 => hx x (by simp [hx2])) _ rfl
set_option maxRecDepth 100000 in
theorem catchT_panic {R : Nat} {w : World} {u : Value} (h : w.cell? ⟨R, 0, none⟩ = some u) (f : w.frozen? ⟨R, 0, none⟩ = false) (older : List PanicEntry) :
    CallsD Tryz.prog 92 #[.pointer (some ⟨R, 0, none⟩)] (.panicking ({ v := .iface 26 (.int .i64 2), recovered := false } :: older)) w fun e u' w' =>
      e = .returned (.tuple #[]) ∧ u' = .panicking ({ v := .iface 26 (.int .i64 2), recovered := true } :: older) ∧ w' = w.setCell ⟨R, 0, none⟩ (.int .i64 2) := by
  refine callsD_of_wpS Tryz.func92 rfl fun c₀ cs hu => ?_
  apply wpS_seq
  apply wpS_region
  simp [wpOpsS, go_sem, recoverD, hu, Tryz.ntmps92, Exit.thenS]
  refine wpS_of_wp ?_
  go_wp2
  exact ⟨rfl, _, rfl, .tuple #[], by simp [results, Tryz.results92], rfl, rfl, rfl⟩
set_option maxRecDepth 100000 in
theorem catchT_idle {R : Nat} {w : World} :
    CallsD Tryz.prog 92 #[.pointer (some ⟨R, 0, none⟩)] .returning w fun e u' w' => e = .returned (.tuple #[]) ∧ u' = .returning ∧ w' = w := by
  refine callsD_of_wpS Tryz.func92 rfl fun c₀ cs hu => ?_
  apply wpS_seq
  apply wpS_region
  simp [wpOpsS, go_sem, recoverD, hu, Tryz.ntmps92, Exit.thenS]
  refine wpS_of_wp ?_
  go_wp2
  cases c₀
  simp_all [bodyPostS, results, Tryz.results92]

/-- How 'taken' ends. -/
structure BoxT (W : World) (b : Nat) (er : Int) (ep : Int) (s : Value) (ee : Int) : Prop where
  c0 : W.cell? ⟨b, 0, none⟩ = some (.int .i64 ep)
  c1 : W.cell? ⟨b, 1, none⟩ = some s
  c2 : W.cell? ⟨b, 2, none⟩ = some (.int .i64 ee)
  ce : W.cell? ⟨b + 1, 0, none⟩ = some (.int .i64 er)
  fr : ∀ j, W.frozen? ⟨b, j, none⟩ = false
  fe : W.frozen? ⟨b + 1, 0, none⟩ = false
theorem BoxT.stay {O : Nat → Prop} {W W' : World} {b : Nat} {er : Int} {ep : Int} {s : Value} {ee : Int} (h : BoxT W b er ep s ee) (hs : Stay O W W') (hO : ¬ O b) (hO1 : ¬ O (b + 1)) : BoxT W' b er ep s ee := by
  have e := hs.block b (World.block_lt_of_cell? _ _ h.c0) hO
  have e1 := hs.block (b + 1) (World.block_lt_of_cell? _ _ h.ce) hO1
  exact ⟨(World.cell?_of_block (a := ⟨b, 0, none⟩) e).trans h.c0, (World.cell?_of_block (a := ⟨b, 1, none⟩) e).trans h.c1, (World.cell?_of_block (a := ⟨b, 2, none⟩) e).trans h.c2, (World.cell?_of_block (a := ⟨b + 1, 0, none⟩) e1).trans h.ce, fun j => (World.frozen?_of_block (a := ⟨b, j, none⟩) e).trans (h.fr j), (World.frozen?_of_block (a := ⟨b + 1, 0, none⟩) e1).trans h.fe⟩
theorem BoxT.below {W W' : World} {b : Nat} {er : Int} {ep : Int} {s : Value} {ee : Int} (h : BoxT W b er ep s ee) (hb : Below W.heap.size W W') : BoxT W' b er ep s ee := h.stay (O := fun _ => False) (Stay.of_below hb) id id
theorem boxT_new (w : World) : BoxT ((w.alloc (.cells #[.int .i64 0, .slice none 0 0, .int .i64 0] 81)).alloc (.cells #[.int .i64 0] 26)) w.heap.size 0 0 (.slice none 0 0) 0 := by
  have hz : (w.alloc (.cells #[.int .i64 0, .slice none 0 0, .int .i64 0] 81)).heap.size = w.heap.size + 1 := by simp
  have b1 := bel_al (w.alloc (.cells #[.int .i64 0, .slice none 0 0, .int .i64 0] 81)) (.cells #[.int .i64 0] 26)
  have e1 := World.cell?_alloc_new (w.alloc (.cells #[.int .i64 0, .slice none 0 0, .int .i64 0] 81)) #[.int .i64 0] 26 0
  have e2 := World.frozen?_alloc_new (w.alloc (.cells #[.int .i64 0, .slice none 0 0, .int .i64 0] 81)) #[.int .i64 0] 26 0
  rw [hz] at e1 e2
  exact ⟨bel_cell b1 (World.cell?_alloc_new w _ _ 0), bel_cell b1 (World.cell?_alloc_new w _ _ 1), bel_cell b1 (World.cell?_alloc_new w _ _ 2), e1, fun j => (World.frozen?_of_block (a := ⟨w.heap.size, j, none⟩) (b1.block w.heap.size (by omega))).trans (World.frozen?_alloc_new w _ _ j), e2⟩
theorem BoxT.putE {W : World} {b : Nat} {er : Int} {ep : Int} {s : Value} {ee : Int} (h : BoxT W b er ep s ee) (er' : Int) : BoxT (W.setCell ⟨b + 1, 0, none⟩ (.int .i64 er')) b er' ep s ee :=
  ⟨other (by omega) h.c0, other (by omega) h.c1, other (by omega) h.c2, World.cell?_setCell_same _ _ _ h.ce, fun j => by rw [World.frozen?_setCell]; exact h.fr j, by rw [World.frozen?_setCell]; exact h.fe⟩

set_option maxRecDepth 100000 in
set_option maxHeartbeats 2000000 in
/-- It panics, or Split refuses. -/
theorem takenT_no (s : ByteArray) (hs : s.size ≤ maxLen) (w : World) (hT : ∀ ts, splitL s = some ts → ∀ (W : World) (a : Option Addr) (b c n : Nat), Strs W a b 0 ts → ts.length = n → n ≤ c → Calls Tryz.prog 51 #[.slice a n c] W fun e w' => e = leftV ∧ Below W.heap.size W w') :
    Calls Tryz.prog 50 #[.string s, .func (.func 51) #[] #[]] w fun e w' => e = .returned (.tuple #[.agg #[.int .i64 0, .slice none 0 0, .int .i64 0], .int .i64 2]) ∧ Below w.heap.size w w' := by
  have hmf : ∀ (fn : Fn) (first cap : Array Value) (w : World), (Instr.makeFunc fn first cap).run Tryz.prog w = .ok (.func fn first cap) w := fun _ _ _ _ => rfl
  have HS : Hid (∀ W, Calls Tryz.prog 93 #[.string s] W fun e w' => SplitEnds W.heap.size (.int .i64 0) (.int .i64 2) (splitL s) e w' ∧ Below W.heap.size W w') := fun W => split_any s W hs
  have HY : Hid (∀ W, Calls Tryz.prog 94 #[.bool true] W fun e w' => e = .returned (.tuple #[]) ∧ w' = W) := need_yes
  have HF : Hid (∀ W, Calls Tryz.prog 94 #[.bool false] W fun e w' => e = leftV ∧ w' = W) := need_no
  have HT : Hid (∀ ts, splitL s = some ts → ∀ (W : World) (a : Option Addr) (b c n : Nat), Strs W a b 0 ts → ts.length = n → n ≤ c → Calls Tryz.prog 51 #[.slice a n c] W fun e w' => e = leftV ∧ Below W.heap.size W w') := hT
  clear hT hs
  have hB0 := boxT_new w
  have BB0 : Hid (Below w.heap.size w ((w.alloc (.cells #[.int .i64 0, .slice none 0 0, .int .i64 0] 81)).alloc (.cells #[.int .i64 0] 26))) := bel_tr (bel_al _ _) (bel_al _ _)
  obtain ⟨RB, hRB⟩ : ∃ RB, w.heap.size = RB := ⟨_, rfl⟩
  have HRB : Hid (w.heap.size = RB) := hRB
  rw [hRB] at hB0
  have HB0 : Hid (BoxT ((w.alloc (.cells #[.int .i64 0, .slice none 0 0, .int .i64 0] 81)).alloc (.cells #[.int .i64 0] 26)) RB 0 0 (.slice none 0 0) 0) := hB0
  clear hB0
  go_enter_defers Tryz.func50, Tryz.ntmps50
  go_wp2_with fail
  clear hRB
  generalize (w.alloc (.cells #[.int .i64 0, .slice none 0 0, .int .i64 0] 81)).alloc (.cells #[.int .i64 0] 26) = W2 at *
  refine (HS.out _).mono ?_
  rintro x w3 ⟨hx, b3⟩
  have BX3 : Hid (BoxT w3 RB 0 0 (.slice none 0 0) 0) := HB0.out.below b3
  have B3 : Hid (Below w.heap.size w w3) := bel_tr BB0.out b3
  have e0 := BX3.out.ce
  have fe0 := BX3.out.fe
  clear b3
  cases hsp : splitL s with
  | none =>
    rw [hsp] at hx
    replace hx : x = .returned (.tuple #[.slice none 0 0, .int .i64 2]) := hx
    subst hx
    go_wp2_with (go_at_call 94; refine (HF.out _).mono ?_; rintro x wy ⟨rfl, hwy⟩; have hwy2 := hwy.symm; clear hwy; subst hwy2)
    have BX4 : Hid (BoxT (w3.setCell ⟨RB + 1, 0, none⟩ (.int .i64 2)) RB 2 0 (.slice none 0 0) 0) := BX3.out.putE 2
    refine leaves_cons (f := 92) (args := #[.pointer (some ⟨RB + 1, 0, none⟩)]) (by simp) (by simp [go_sem]) ?_
    refine (catchT_panic BX4.out.ce BX4.out.fe []).mono ?_
    rintro e u' w' ⟨rfl, rfl, rfl⟩
    have BX5 := BX4.out.putE 2
    have k0 := BX5.c0
    have k1 := BX5.c1
    have k2 := BX5.c2
    have k3 := BX5.ce
    refine ⟨.tuple #[.agg #[.int .i64 0, .slice none 0 0, .int .i64 0], .int .i64 2], ?_, rfl, Below.setCell (Below.setCell B3.out (by have := HRB.out; show _ ≤ RB + 1; omega) _) (by have := HRB.out; show _ ≤ RB + 1; omega) _⟩
    simp only [results, Tryz.results50]
    simp [go_sem, k0, k1, k2, k3]
  | some ts =>
    rw [hsp] at hx
    obtain ⟨v, rfl, ho, hl, hsm⟩ := hx
    obtain ⟨a, c, b, rfl, hn, hc, hS, hbb⟩ := own_strs ho hsm hl
    obtain ⟨n, hnn⟩ : ∃ n, ts.length = n := ⟨_, rfl⟩
    rw [hnn] at hn hc hbb ⊢
    have BX4 : Hid (BoxT (w3.setCell ⟨RB + 1, 0, none⟩ (.int .i64 0)) RB 0 0 (.slice none 0 0) 0) := BX3.out.putE 0
    have B4 : Hid (Below w.heap.size w (w3.setCell ⟨RB + 1, 0, none⟩ (.int .i64 0))) := Below.setCell B3.out (by have := HRB.out; show _ ≤ RB + 1; omega) _
    have hRW : RB + 1 < W2.heap.size := World.block_lt_of_cell? _ _ HB0.out.ce
    have CT : Hid (Calls Tryz.prog 51 #[.slice a n c] (w3.setCell ⟨RB + 1, 0, none⟩ (.int .i64 0)) fun e w' => e = leftV ∧ Below (w3.setCell ⟨RB + 1, 0, none⟩ (.int .i64 0)).heap.size (w3.setCell ⟨RB + 1, 0, none⟩ (.int .i64 0)) w') :=
      HT.out ts hsp _ a b c n (strs_set hS (fun hp => by have := hbb (by omega); omega)) hnn hc
    have z0 := BX4.out.ce
    clear hS hbb ho hsm hl hRW hsp HT
    go_wp2_with (first
      | (go_at_call 94; refine (HY.out _).mono ?_; rintro x wy ⟨rfl, hwy⟩; have hwy2 := hwy.symm; clear hwy; subst hwy2)
      | (go_at_call 51; refine CT.out.mono ?_; rintro x w5 ⟨rfl, b5⟩; have BX5 : Hid (BoxT w5 RB 0 0 (.slice none 0 0) 0) := BX4.out.below b5; have B5 : Hid (Below w.heap.size w w5) := bel_tr B4.out b5; clear b5))
    refine leaves_cons (f := 92) (args := #[.pointer (some ⟨RB + 1, 0, none⟩)]) (by simp) (by simp [go_sem]) ?_
    refine (catchT_panic BX5.out.ce BX5.out.fe []).mono ?_
    rintro e u' w' ⟨rfl, rfl, rfl⟩
    have BX6 := BX5.out.putE 2
    have k0 := BX6.c0
    have k1 := BX6.c1
    have k2 := BX6.c2
    have k3 := BX6.ce
    refine ⟨.tuple #[.agg #[.int .i64 0, .slice none 0 0, .int .i64 0], .int .i64 2], ?_, rfl, Below.setCell B5.out (by have := HRB.out; show _ ≤ RB + 1; omega) _⟩
    simp only [results, Tryz.results50]
    simp [go_sem, k0, k1, k2, k3]

theorem BoxT.sets {W : World} {b : Nat} {er : Int} {ep : Int} {s : Value} {ee : Int} (h : BoxT W b er ep s ee) (ep' : Int) (s' : Value) (ee' : Int) : BoxT (((W.setCell ⟨b, 0, none⟩ (.int .i64 ep')).setCell ⟨b, 1, none⟩ s').setCell ⟨b, 2, none⟩ (.int .i64 ee')) b er ep' s' ee' :=
  ⟨cell_set (by omega) (cell_set (by omega) (World.cell?_setCell_same _ _ _ h.c0)), cell_set (by omega) (World.cell?_setCell_same _ _ _ (cell_set (by omega) h.c1)), World.cell?_setCell_same _ _ _ (cell_set (by omega) (cell_set (by omega) h.c2)),
    other (by omega) (other (by omega) (other (by omega) h.ce)), fun j => by rw [World.frozen?_setCell, World.frozen?_setCell, World.frozen?_setCell]; exact h.fr j, by rw [World.frozen?_setCell, World.frozen?_setCell, World.frozen?_setCell]; exact h.fe⟩
set_option maxRecDepth 100000 in
set_option maxHeartbeats 2000000 in
/-- It comes to its end. -/
theorem takenT_yes (s : ByteArray) (hs : s.size ≤ maxLen) (w : World) {ts : List ByteArray} (hsp : splitL s = some ts) (ep er : Int) (es : List En) (hT : ∀ (W : World) (a : Option Addr) (b c n : Nat), Strs W a b 0 ts → ts.length = n → n ≤ c → Calls Tryz.prog 51 #[.slice a n c] W fun e w' => TldR W.heap.size ep er es e w' ∧ Below W.heap.size W w') :
    Calls Tryz.prog 50 #[.string s, .func (.func 51) #[] #[]] w fun e w' => TkT w.heap.size ep er es e w' ∧ Below w.heap.size w w' := by
  have hmf : ∀ (fn : Fn) (first cap : Array Value) (w : World), (Instr.makeFunc fn first cap).run Tryz.prog w = .ok (.func fn first cap) w := fun _ _ _ _ => rfl
  have hst := fun (w : World) (a : Addr) (x : ByteArray) (m : Mode) => run_store (P := Tryz.prog) w a (.string x) m rfl
  have hst2 : ∀ (w : World) (a : Addr) (x : Option Addr) (n c : Nat) (m : Mode), (store a (.slice x n c) m).run Tryz.prog w = stored Tryz.prog w a (.slice x n c) m := fun w a x n c m => run_store (P := Tryz.prog) w a _ m rfl
  have HS : Hid (∀ W, Calls Tryz.prog 93 #[.string s] W fun e w' => SplitEnds W.heap.size (.int .i64 0) (.int .i64 2) (splitL s) e w' ∧ Below W.heap.size W w') := fun W => split_any s W hs
  have HY : Hid (∀ W, Calls Tryz.prog 94 #[.bool true] W fun e w' => e = .returned (.tuple #[]) ∧ w' = W) := need_yes
  have HT : Hid (∀ (W : World) (a : Option Addr) (b c n : Nat), Strs W a b 0 ts → ts.length = n → n ≤ c → Calls Tryz.prog 51 #[.slice a n c] W fun e w' => TldR W.heap.size ep er es e w' ∧ Below W.heap.size W w') := hT
  have HSP : Hid (splitL s = some ts) := hsp
  clear hT hs hsp
  have hB0 := boxT_new w
  have BB0 : Hid (Below w.heap.size w ((w.alloc (.cells #[.int .i64 0, .slice none 0 0, .int .i64 0] 81)).alloc (.cells #[.int .i64 0] 26))) := bel_tr (bel_al _ _) (bel_al _ _)
  obtain ⟨RB, hRB⟩ : ∃ RB, w.heap.size = RB := ⟨_, rfl⟩
  have HRB : Hid (w.heap.size = RB) := hRB
  rw [hRB] at hB0
  have HB0 : Hid (BoxT ((w.alloc (.cells #[.int .i64 0, .slice none 0 0, .int .i64 0] 81)).alloc (.cells #[.int .i64 0] 26)) RB 0 0 (.slice none 0 0) 0) := hB0
  clear hB0
  go_enter_defers Tryz.func50, Tryz.ntmps50
  go_wp2_with fail
  clear hRB
  generalize (w.alloc (.cells #[.int .i64 0, .slice none 0 0, .int .i64 0] 81)).alloc (.cells #[.int .i64 0] 26) = W2 at *
  refine (HS.out _).mono ?_
  rintro x w3 ⟨hx, b3⟩
  have BX3 : Hid (BoxT w3 RB 0 0 (.slice none 0 0) 0) := HB0.out.below b3
  have B3 : Hid (Below w.heap.size w w3) := bel_tr BB0.out b3
  have e0 := BX3.out.ce
  have fe0 := BX3.out.fe
  clear b3
  rw [HSP.out] at hx
  obtain ⟨v, rfl, ho, hl, hsm⟩ := hx
  obtain ⟨a, c, b, rfl, hn, hc, hS, hbb⟩ := own_strs ho hsm hl
  obtain ⟨n, hnn⟩ : ∃ n, ts.length = n := ⟨_, rfl⟩
  rw [hnn] at hn hc hbb ⊢
  have BX4 : Hid (BoxT (w3.setCell ⟨RB + 1, 0, none⟩ (.int .i64 0)) RB 0 0 (.slice none 0 0) 0) := BX3.out.putE 0
  have B4 : Hid (Below w.heap.size w (w3.setCell ⟨RB + 1, 0, none⟩ (.int .i64 0))) := Below.setCell B3.out (by have := HRB.out; show _ ≤ RB + 1; omega) _
  have hRW : RB + 1 < W2.heap.size := World.block_lt_of_cell? _ _ HB0.out.ce
  have HGE : Hid (RB + 1 < (w3.setCell ⟨RB + 1, 0, none⟩ (.int .i64 0)).heap.size) := World.block_lt_of_cell? _ _ BX4.out.ce
  have CT : Hid (Calls Tryz.prog 51 #[.slice a n c] (w3.setCell ⟨RB + 1, 0, none⟩ (.int .i64 0)) fun e w' => TldR (w3.setCell ⟨RB + 1, 0, none⟩ (.int .i64 0)).heap.size ep er es e w' ∧ Below (w3.setCell ⟨RB + 1, 0, none⟩ (.int .i64 0)).heap.size (w3.setCell ⟨RB + 1, 0, none⟩ (.int .i64 0)) w') :=
    HT.out _ a b c n (strs_set hS (fun hp => by have := hbb (by omega); omega)) hnn hc
  have z0 := BX4.out.ce
  clear hS hbb ho hsm hl hRW HT
  go_wp2_with (first
    | (go_at_call 94; refine (HY.out _).mono ?_; rintro x wy ⟨rfl, hwy⟩; have hwy2 := hwy.symm; clear hwy; subst hwy2)
    | (go_at_call 51; refine CT.out.mono ?_; rintro x w5 ⟨⟨ea, ec, eg, hxe, hC⟩, b5⟩; subst hxe; have BX5 : Hid (BoxT w5 RB 0 0 (.slice none 0 0) 0) := BX4.out.below b5; have B5 : Hid (Below w.heap.size w w5) := bel_tr B4.out b5; have HC5 : Hid (Cel (fun q => RB + 1 < q) w5 2 (.slice ea es.length ec) es.length (rowC enC es) eg) := hC.stay (Nat.le_refl _) (fun _ _ => rfl) (fun q hq => Nat.lt_of_lt_of_le HGE.out hq); clear b5 hC z0 e0 fe0; have y0 := BX5.out.c0; have y1 := BX5.out.c1; have y2 := BX5.out.c2; have ye := BX5.out.ce; have f0 := BX5.out.fr 0; have f1 := BX5.out.fr 1; have f2 := BX5.out.fr 2; have fe := BX5.out.fe))
  have BX6 : Hid (BoxT (((w5.setCell ⟨RB, 0, none⟩ (.int .i64 ep)).setCell ⟨RB, 1, none⟩ (.slice ea es.length ec)).setCell ⟨RB, 2, none⟩ (.int .i64 er)) RB 0 ep (.slice ea es.length ec) er) := BX5.out.sets ep (.slice ea es.length ec) er
  have BX7 : Hid (BoxT ((((w5.setCell ⟨RB, 0, none⟩ (.int .i64 ep)).setCell ⟨RB, 1, none⟩ (.slice ea es.length ec)).setCell ⟨RB, 2, none⟩ (.int .i64 er)).setCell ⟨RB + 1, 0, none⟩ (.int .i64 0)) RB 0 ep (.slice ea es.length ec) er) := BX6.out.putE 0
  have hs7 : Stay (fun q => q = RB ∨ q = RB + 1) w5 ((((w5.setCell ⟨RB, 0, none⟩ (.int .i64 ep)).setCell ⟨RB, 1, none⟩ (.slice ea es.length ec)).setCell ⟨RB, 2, none⟩ (.int .i64 er)).setCell ⟨RB + 1, 0, none⟩ (.int .i64 0)) :=
    (Stay.to (stay_sets w5 RB _ _ _) (fun q hq => .inl hq)).then_same (Stay.to (stay_set _ (RB + 1) 0 _) (fun q hq => .inr hq))
  have HB7 : Hid (Below w.heap.size w ((((w5.setCell ⟨RB, 0, none⟩ (.int .i64 ep)).setCell ⟨RB, 1, none⟩ (.slice ea es.length ec)).setCell ⟨RB, 2, none⟩ (.int .i64 er)).setCell ⟨RB + 1, 0, none⟩ (.int .i64 0))) := B5.out.trans (hs7.below B5.out.size (fun q hq => by have := HRB.out; omega))
  have HC7 : Hid (Cel (fun q => w.heap.size ≤ q) ((((w5.setCell ⟨RB, 0, none⟩ (.int .i64 ep)).setCell ⟨RB, 1, none⟩ (.slice ea es.length ec)).setCell ⟨RB, 2, none⟩ (.int .i64 er)).setCell ⟨RB + 1, 0, none⟩ (.int .i64 0)) 2 (.slice ea es.length ec) es.length (rowC enC es) eg) :=
    HC5.out.stay hs7.size (fun q hq => hs7.block q (by have h9 := HC5.out; rw [hq] at h9; exact h9.lt.1) (fun e => by have h9 := HC5.out; rw [hq] at h9; have h8 : RB + 1 < q := h9.lt.2; omega)) (fun q hq => by have h9 : RB + 1 < q := hq; have := HRB.out; omega)
  clear y0 y1 y2 ye f0 f1 f2 fe hs7 BX6 BX5 HC5 B5
  generalize ((((w5.setCell ⟨RB, 0, none⟩ (.int .i64 ep)).setCell ⟨RB, 1, none⟩ (.slice ea es.length ec)).setCell ⟨RB, 2, none⟩ (.int .i64 er)).setCell ⟨RB + 1, 0, none⟩ (.int .i64 0)) = W7 at *
  refine leaves_cons (f := 92) (args := #[.pointer (some ⟨RB + 1, 0, none⟩)]) (by simp) (by simp [go_sem]) ?_
  refine catchT_idle.mono ?_
  rintro e u' w' ⟨rfl, rfl, rfl⟩
  have k0 := BX7.out.c0
  have k1 := BX7.out.c1
  have k2 := BX7.out.c2
  have k3 := BX7.out.ce
  refine ⟨.tuple #[.agg #[.int .i64 ep, .slice ea es.length ec, .int .i64 er], .int .i64 0], ?_, ⟨_, _, _, rfl, HC7.out⟩, HB7.out⟩
  simp only [results, Tryz.results50]
  simp [go_sem, k0, k1, k2, k3]


/-- What becomes of bytes that are to be an answer. -/
def TtO (base : Nat) (r : Option (Lg × Int)) (e : Ending) (w' : World) : Prop := match r with
  | none => e = .returned (.tuple #[.agg #[.int .i64 0, .slice none 0 0, .int .i64 0], .int .i64 2])
  | some (l, er) => TkT base l.ep er l.es e w'
def ansS (s : ByteArray) : Option (Lg × Int) := match splitL s with
  | none => none
  | some ts => ansP ts
theorem takenT_any (s : ByteArray) (hs : s.size ≤ maxLen) (w : World) : Calls Tryz.prog 50 #[.string s, .func (.func 51) #[] #[]] w fun e w' => TtO w.heap.size (ansS s) e w' ∧ Below w.heap.size w w' := by
  cases hr : ansS s with
  | none =>
    refine takenT_no s hs w (fun ts hts W a b c n hS hn hc => ?_)
    have h1 : ansP ts = none := by unfold ansS at hr; rw [hts] at hr; exact hr
    have h2 := takeAnswer_any hS n c hn hc (by have := split_len hts; omega) (split_small hts)
    rw [h1] at h2
    exact h2
  | some r =>
    obtain ⟨l, er⟩ := r
    cases hts : splitL s with
    | none => unfold ansS at hr; rw [hts] at hr; cases hr
    | some ts =>
      refine takenT_yes s hs w hts l.ep er l.es (fun W a b c n hS hn hc => ?_)
      have h1 : ansP ts = some (l, er) := by unfold ansS at hr; rw [hts] at hr; exact hr
      have h2 := takeAnswer_any hS n c hn hc (by have := split_len hts; omega) (split_small hts)
      rw [h1] at h2
      exact h2
theorem ansP_err {ts : List ByteArray} {l : Lg} {er : Int} (h : ansP ts = some (l, er)) (he : er ≠ 0) : l = ⟨0, []⟩ := by
  unfold ansP at h
  split at h
  · cases h
  · split at h
    · cases h
    · split at h
      · split at h
        · cases h; rfl
        · split at h
          · unfold logP at h
            split at h
            · split at h
              · cases h; exact absurd rfl he
              · cases h
            · cases h
          · cases h
      · cases h
theorem toldP_of (s : ByteArray) : toldP s = (match ansS s with | none => (⟨0, []⟩, 2) | some r => r) := by
  unfold toldP ansS
  cases splitL s with
  | none => rfl
  | some ts => rfl
theorem toldP_err {s : ByteArray} (h : (toldP s).2 ≠ 0) : (toldP s).1 = ⟨0, []⟩ := by
  unfold toldP at h ⊢
  split
  · rfl
  · rename_i ts hts
    rw [hts] at h
    simp only at h ⊢
    split
    · rfl
    · rename_i r hr
      rw [hr] at h
      exact ansP_err (l := r.1) (er := r.2) hr h
/-- A log, and an error; the log's row is the call's own. -/
structure LgE (base : Nat) (l : Lg) (er : Int) (e : Ending) (w' : World) : Prop where
  ex : ∃ a c g, e = .returned (.tuple #[.agg #[.int .i64 l.ep, .slice a l.es.length c], .int .i64 er]) ∧ Cel (fun q => base ≤ q) w' 2 (.slice a l.es.length c) l.es.length (rowC enC l.es) g

set_option maxRecDepth 100000 in
set_option maxHeartbeats 2000000 in
theorem told_val (s : ByteArray) (hs : s.size ≤ maxLen) (w : World) : Calls Tryz.prog 14 #[.string s] w fun e w' => LgE w.heap.size (toldP s).1 (toldP s).2 e w' ∧ Below w.heap.size w w' := by
  have hst2 : ∀ (w : World) (a : Addr) (x : Option Addr) (n c : Nat) (m : Mode), (store a (.slice x n c) m).run Tryz.prog w = stored Tryz.prog w a (.slice x n c) m := fun w a x n c m => run_store (P := Tryz.prog) w a _ m rfl
  have CT : Hid (∀ W, Calls Tryz.prog 50 #[.string s, .func (.func 51) #[] #[]] W fun e w' => TtO W.heap.size (ansS s) e w' ∧ Below W.heap.size W w') := fun W => takenT_any s hs W
  have hof := toldP_of s
  have herr := @toldP_err s
  obtain ⟨q0, q1, f0, f1⟩ := cells2 w (.int .i64 0) (.slice none 0 0) 34
  have B1 : Hid (Below w.heap.size w (w.alloc (.cells #[.int .i64 0, .slice none 0 0] 34))) := bel_al _ _
  have hz1 : (w.alloc (.cells #[.int .i64 0, .slice none 0 0] 34)).heap.size = w.heap.size + 1 := by simp
  obtain ⟨⟨l, er⟩, hP⟩ : ∃ x, toldP s = x := ⟨_, rfl⟩
  rw [hP] at hof herr ⊢
  simp only at herr ⊢
  clear hP
  obtain ⟨RB, hRB⟩ : ∃ RB, w.heap.size = RB := ⟨_, rfl⟩
  have HRB : Hid (w.heap.size = RB) := hRB
  simp only [hRB] at q0 q1 f0 f1
  go_enter Tryz.func14, Tryz.ntmps14
  go_upto_region 1 with fail
  try simp only [hRB]
  generalize w.alloc (.cells #[.int .i64 0, .slice none 0 0] 34) = W1 at *
  have HZ1 : Hid (W1.heap.size = w.heap.size + 1) := hz1
  clear hz1 hRB
  have ENDS : Hid (∀ (W : World) (ep : Int) (a : Option Addr) (n c : Nat) (es : List En) (g : Option Nat), es.length = n → Below W1.heap.size W1 W → Cel (fun q => RB < q) W 2 (.slice a n c) n (rowC enC es) g → ((W.setCell ⟨RB, 0, none⟩ (.int .i64 ep)).setCell ⟨RB, 1, none⟩ (.slice a n c)).cell? ⟨RB, 0, none⟩ = some (.int .i64 ep) ∧ ((W.setCell ⟨RB, 0, none⟩ (.int .i64 ep)).setCell ⟨RB, 1, none⟩ (.slice a n c)).cell? ⟨RB, 1, none⟩ = some (.slice a n c) ∧ Cel (fun q => w.heap.size ≤ q) ((W.setCell ⟨RB, 0, none⟩ (.int .i64 ep)).setCell ⟨RB, 1, none⟩ (.slice a n c)) 2 (.slice a es.length c) es.length (rowC enC es) g ∧ Below w.heap.size w ((W.setCell ⟨RB, 0, none⟩ (.int .i64 ep)).setCell ⟨RB, 1, none⟩ (.slice a n c))) := by
    intro W ep a n c es g hn hb hC
    subst hn
    obtain ⟨z0, z1⟩ := two_set (u' := .int .i64 ep) (v' := .slice a es.length c) (bel_cell hb q0) (bel_cell hb q1)
    have hs : Stay (fun q => q = RB) W ((W.setCell ⟨RB, 0, none⟩ (.int .i64 ep)).setCell ⟨RB, 1, none⟩ (.slice a es.length c)) := (stay_set W RB 0 _).then_same (stay_set _ RB 1 _)
    have hb2 := bel_tr B1.out hb
    have h2 := HRB.out
    exact ⟨z0, z1, hC.stay hs.size (fun q hq => hs.block q (by rw [hq] at hC; exact hC.lt.1) (fun e => by rw [hq] at hC; have h9 : RB < q := hC.lt.2; omega)) (fun q hq => by have h9 : RB < q := hq; omega), hb2.trans (hs.below hb2.size (fun q hq => by omega))⟩
  have F0 : Hid (∀ W, Below W1.heap.size W1 W → W.cell? ⟨RB, 0, none⟩ = some (.int .i64 0) ∧ W.cell? ⟨RB, 1, none⟩ = some (.slice none 0 0) ∧ W.frozen? ⟨RB, 0, none⟩ = false ∧ W.frozen? ⟨RB, 1, none⟩ = false) := fun W hb => ⟨bel_cell hb q0, bel_cell hb q1, (World.frozen?_of_block (a := ⟨RB, 0, none⟩) (hb.block RB (World.block_lt_of_cell? _ _ q0))).trans f0, (World.frozen?_of_block (a := ⟨RB, 1, none⟩) (hb.block RB (World.block_lt_of_cell? _ _ q0))).trans f1⟩
  clear q0 q1 f0 f1
  cases hA : ansS s with
  | none =>
    rw [hA] at CT hof
    cases hof
    clear hA herr
    go_wp2_with (go_at_call 50; refine (CT.out _).mono ?_; rintro x w2 ⟨hx, b2⟩; replace hx : x = .returned (.tuple #[.agg #[.int .i64 0, .slice none 0 0, .int .i64 0], .int .i64 2]) := hx; subst hx; have B2 : Hid (Below W1.heap.size W1 (w2.alloc (.cells #[.int .i64 0, .slice none 0 0, .int .i64 0] 81))) := bel_tr b2 (bel_al _ _); clear b2; obtain ⟨z0, z1, f0, f1⟩ := F0.out _ B2.out)
    obtain ⟨k0, k1, k2, k3⟩ := ENDS.out _ 0 none 0 0 [] none rfl B2.out (.nil rfl rfl rfl)
    refine bodyPost_ret (v := .tuple #[.agg #[.int .i64 0, .slice none 0 0], .int .i64 2]) ?_ rfl ⟨⟨_, _, _, rfl, k2⟩, k3⟩
    simp only [results, Tryz.results14]
    simp [go_sem, k0, k1]
  | some r =>
    rw [hA] at CT hof
    simp only at hof
    subst hof
    obtain ⟨ep, es⟩ := l
    obtain ⟨n, hn⟩ : ∃ n, es.length = n := ⟨_, rfl⟩
    have HN : Hid (es.length = n) := hn
    clear hA hn herr
    replace CT : Hid (∀ W, Calls Tryz.prog 50 #[.string s, .func (.func 51) #[] #[]] W fun e w' => TkT W.heap.size ep er es e w' ∧ Below W.heap.size W w') := CT
    go_upto_region 2 with (go_at_call 50; refine (CT.out _).mono ?_; rintro x w2 ⟨⟨a, c, g, hx, hC⟩, b2⟩; rw [HN.out] at hx hC; subst hx; have B2 : Hid (Below W1.heap.size W1 w2) := b2; have HC2 : Hid (Cel (fun q => W1.heap.size ≤ q) w2 2 (.slice a n c) n (rowC enC es) g) := hC; clear b2 hC)
    have B3 : Hid (Below W1.heap.size W1 (w2.alloc (.cells #[.int .i64 ep, .slice a n c, .int .i64 er] 81))) := bel_tr B2.out (bel_al _ _)
    have HC3 : Hid (Cel (fun q => RB < q) (w2.alloc (.cells #[.int .i64 ep, .slice a n c, .int .i64 er] 81)) 2 (.slice a n c) n (rowC enC es) g) := (HC2.out.below (bel_al _ _)).stay (Nat.le_refl _) (fun _ _ => rfl) (fun z hz => by have h9 : W1.heap.size ≤ z := hz; have := HZ1.out; have := HRB.out; omega)
    have y0 := World.cell?_alloc_new w2 #[.int .i64 ep, .slice a n c, .int .i64 er] 81 0
    have y1 := World.cell?_alloc_new w2 #[.int .i64 ep, .slice a n c, .int .i64 er] 81 1
    have y2 := World.cell?_alloc_new w2 #[.int .i64 ep, .slice a n c, .int .i64 er] 81 2
    have y0' : (w2.alloc (.cells #[.int .i64 ep, .slice a n c, .int .i64 er] 81)).cell? ⟨w2.heap.size, 0, none⟩ = some (.int .i64 ep) := y0
    have y1' : (w2.alloc (.cells #[.int .i64 ep, .slice a n c, .int .i64 er] 81)).cell? ⟨w2.heap.size, 1, none⟩ = some (.slice a n c) := y1
    have y2' : (w2.alloc (.cells #[.int .i64 ep, .slice a n c, .int .i64 er] 81)).cell? ⟨w2.heap.size, 2, none⟩ = some (.int .i64 er) := y2
    clear y0 y1 y2 HC2 B2
    generalize w2.alloc (.cells #[.int .i64 ep, .slice a n c, .int .i64 er] 81) = W3 at *
    generalize w2.heap.size = TB at *
    obtain ⟨z0, z1, f0, f1⟩ := F0.out _ B3.out
    go_upto_region 4 with fail
    go_region
    go_wp2
    obtain ⟨k0, k1, k2, k3⟩ := ENDS.out _ ep a n c es g HN.out B3.out HC3.out
    have k4 := k2.below (bel_dr1' _)
    have k5 := bel_tr k3 (bel_dr1' _)
    refine bodyPost_ret (v := .tuple #[.agg #[.int .i64 ep, .slice a n c], .int .i64 er]) ?_ rfl ⟨⟨a, c, g, by simp only [HN.out], k4⟩, k5⟩
    simp only [results, Tryz.results14]
    simp [go_sem, k0, k1]

end Go.Proofs.YtfmhmokbbkliaaaGreat.Jrn

/- The contract of tabulariumref15.Told. -/
namespace Go.Proofs.YtfmhmokbbkliaaaGreat.Jrn
open Go.RowKit Go.Proofs.YtfmhmokbbkliaaaGreat Go.Proofs.YtfmhmokbbkliaaaGreat.Wir Go.Proofs.YtfmhmokbbkliaaaGreat.Lgg
open Go.Proofs.YtfmhmokbbkliaaaGreat.Smm (bytes_ne)
set_option linter.unusedVariables false

theorem cat_next (xs : List ByteArray) (k : Nat) (h : k < xs.length) : catL (xs.take (k + 1)) = catL (xs.take k) ++ xs[k] := by
  refine Go.WideShapes.bytes_inj ?_
  rw [app_list]
  simp only [catL]
  rw [List.take_succ_eq_append_getElem h]
  simp only [List.map_append, List.map_cons, List.map_nil, List.flatten_append, List.flatten_cons, List.flatten_nil, List.append_nil]
theorem parse_none {b : ByteArray} (h : parseL b = none) : epochP b = none := by
  unfold parseL at h
  split at h
  · cases h
  · assumption
/-- A result that lies in a box of the call's own. -/
theorem res_box (w : World) (T : TypeId) (RB : Nat) (hRB : w.heap.size = RB) :
    (∀ W, Below (w.alloc (.cells #[.int .i64 0, .slice none 0 0] T)).heap.size (w.alloc (.cells #[.int .i64 0, .slice none 0 0] T)) W → W.cell? ⟨RB, 0, none⟩ = some (.int .i64 0) ∧ W.cell? ⟨RB, 1, none⟩ = some (.slice none 0 0) ∧ W.frozen? ⟨RB, 0, none⟩ = false ∧ W.frozen? ⟨RB, 1, none⟩ = false ∧ RB < W.heap.size) ∧
    ∀ (W : World) (ep : Int) (a : Option Addr) (n c : Nat) (es : List En) (g : Option Nat), es.length = n → Below (w.alloc (.cells #[.int .i64 0, .slice none 0 0] T)).heap.size (w.alloc (.cells #[.int .i64 0, .slice none 0 0] T)) W → Cel (fun q => RB < q) W 2 (.slice a n c) n (rowC enC es) g → ((W.setCell ⟨RB, 0, none⟩ (.int .i64 ep)).setCell ⟨RB, 1, none⟩ (.slice a n c)).cell? ⟨RB, 0, none⟩ = some (.int .i64 ep) ∧ ((W.setCell ⟨RB, 0, none⟩ (.int .i64 ep)).setCell ⟨RB, 1, none⟩ (.slice a n c)).cell? ⟨RB, 1, none⟩ = some (.slice a n c) ∧ Cel (fun q => w.heap.size ≤ q) ((W.setCell ⟨RB, 0, none⟩ (.int .i64 ep)).setCell ⟨RB, 1, none⟩ (.slice a n c)) 2 (.slice a es.length c) es.length (rowC enC es) g ∧ Below w.heap.size w ((W.setCell ⟨RB, 0, none⟩ (.int .i64 ep)).setCell ⟨RB, 1, none⟩ (.slice a n c)) := by
  subst hRB
  obtain ⟨q0, q1, f0, f1⟩ := cells2 w (.int .i64 0) (.slice none 0 0) T
  have B1 : Below w.heap.size w (w.alloc (.cells #[.int .i64 0, .slice none 0 0] T)) := bel_al _ _
  have hF : ∀ W, Below (w.alloc (.cells #[.int .i64 0, .slice none 0 0] T)).heap.size (w.alloc (.cells #[.int .i64 0, .slice none 0 0] T)) W → W.cell? ⟨w.heap.size, 0, none⟩ = some (.int .i64 0) ∧ W.cell? ⟨w.heap.size, 1, none⟩ = some (.slice none 0 0) ∧ W.frozen? ⟨w.heap.size, 0, none⟩ = false ∧ W.frozen? ⟨w.heap.size, 1, none⟩ = false ∧ w.heap.size < W.heap.size := fun W hb => ⟨bel_cell hb q0, bel_cell hb q1, (World.frozen?_of_block (a := ⟨w.heap.size, 0, none⟩) (hb.block w.heap.size (World.block_lt_of_cell? _ _ q0))).trans f0, (World.frozen?_of_block (a := ⟨w.heap.size, 1, none⟩) (hb.block w.heap.size (World.block_lt_of_cell? _ _ q0))).trans f1, World.block_lt_of_cell? _ _ (bel_cell hb q0)⟩
  refine ⟨hF, fun W ep a n c es g hn hb hC => ?_⟩
  subst hn
  obtain ⟨z0, z1⟩ := two_set (u' := .int .i64 ep) (v' := .slice a es.length c) (bel_cell hb q0) (bel_cell hb q1)
  have hs : Stay (fun q => q = w.heap.size) W ((W.setCell ⟨w.heap.size, 0, none⟩ (.int .i64 ep)).setCell ⟨w.heap.size, 1, none⟩ (.slice a es.length c)) := (stay_set W w.heap.size 0 _).then_same (stay_set _ w.heap.size 1 _)
  have hb2 := bel_tr B1 hb
  exact ⟨z0, z1, hC.stay hs.size (fun q hq => hs.block q (by rw [hq] at hC; exact hC.lt.1) (fun e => by rw [hq] at hC; have h9 : w.heap.size < q := hC.lt.2; omega)) (fun q hq => by have h9 : w.heap.size < q := hq; omega), hb2.trans (hs.below hb2.size (fun q hq => by omega))⟩

set_option maxRecDepth 100000 in
set_option maxHeartbeats 4000000 in
theorem refTold_any (s : ByteArray) (hs : s.size ≤ maxLen) (w : World) : Calls Tryz.prog 15 #[.string s] w fun e w' => LgE w.heap.size (refToldP s).1 (refToldP s).2 e w' ∧ Below w.heap.size w w' := by
  have hst2 : ∀ (w : World) (a : Addr) (x : Option Addr) (n c : Nat) (m : Mode), (store a (.slice x n c) m).run Tryz.prog w = stored Tryz.prog w a (.slice x n c) m := fun w a x n c m => run_store (P := Tryz.prog) w a _ m rfl
  have CS : Hid (∀ W, Calls Tryz.prog 52 #[.string s] W fun e w' => SplitEnds W.heap.size (.bool true) (.bool false) (splitL s) e w' ∧ Below W.heap.size W w') := fun W => refSplit_any s W hs
  obtain ⟨⟨l, er⟩, hP⟩ : ∃ x, refToldP s = x := ⟨_, rfl⟩
  rw [hP]
  obtain ⟨RB, hRB⟩ : ∃ RB, w.heap.size = RB := ⟨_, rfl⟩
  obtain ⟨f0', e0'⟩ := res_box w 34 RB hRB
  have F0 : Hid _ := f0'
  have EN : Hid _ := e0'
  clear f0' e0'
  have hz1 : (w.alloc (.cells #[.int .i64 0, .slice none 0 0] 34)).heap.size = w.heap.size + 1 := by simp
  have HS : Hid (s.size ≤ maxLen) := hs
  clear hs
  go_enter Tryz.func15, Tryz.ntmps15
  go_upto_region 1 with fail
  try simp only [hRB]
  generalize w.alloc (.cells #[.int .i64 0, .slice none 0 0] 34) = W1 at *
  have HZ1 : Hid (W1.heap.size = w.heap.size + 1 ∧ w.heap.size = RB) := ⟨hz1, hRB⟩
  clear hz1 hRB
  cases hsp : splitL s with
  | none =>
    rw [hsp] at CS
    have hr : (⟨l, er⟩ : Lg × Int) = (⟨0, []⟩, 2) := by rw [← hP]; unfold refToldP; rw [hsp]
    cases hr
    replace CS : Hid (∀ W, Calls Tryz.prog 52 #[.string s] W fun e w' => e = .returned (.tuple #[.slice none 0 0, .bool false]) ∧ Below W.heap.size W w') := CS
    clear hP hsp
    go_wp2_with fail
    refine (CS.out _).mono ?_
    rintro x w2 ⟨rfl, b2⟩
    obtain ⟨z0, z1, f0, f1, -⟩ := F0.out _ b2
    have B2 : Hid (Below W1.heap.size W1 w2) := b2
    clear b2
    go_wp2
    obtain ⟨k0, k1, k2, k3⟩ := EN.out _ 0 none 0 0 [] none rfl B2.out (.nil rfl rfl rfl)
    refine bodyPost_ret (v := .tuple #[.agg #[.int .i64 0, .slice none 0 0], .int .i64 2]) ?_ rfl ⟨⟨_, _, _, rfl, k2⟩, k3⟩
    simp only [results, Tryz.results15]
    simp [go_sem, k0, k1]
  | some ts =>
    rw [hsp] at CS
    replace CS : Hid (∀ W, Calls Tryz.prog 52 #[.string s] W fun e w' => (∃ v, e = .returned (.tuple #[v, .bool true]) ∧ w'.ownsRow W.heap.size 9 1 v ts.length (ts.map Value.string) ∧ ts.length ≤ 1000 ∧ ∀ x ∈ ts, x.size ≤ maxLen) ∧ Below W.heap.size W w') := CS
    have hsm4 := split_small hsp
    go_wp2_with fail
    refine (CS.out _).mono ?_
    rintro x w2 ⟨⟨v, rfl, ho, hl, hsm⟩, b2⟩
    obtain ⟨a, c, b, rfl, hn, hc, hS, -⟩ := own_strs ho hsm hl
    have B2 : Hid (Below W1.heap.size W1 w2) := b2
    obtain ⟨z0, z1, f0, f1, -⟩ := F0.out _ b2
    clear ho b2 CS hn
    cases ts with
    | nil =>
      have hr : (⟨l, er⟩ : Lg × Int) = (⟨0, []⟩, 2) := by rw [← hP]; unfold refToldP; rw [hsp]
      cases hr
      have hgd : decide ((0 : Int) < 1) = true := rfl
      simp only [List.length_nil]
      clear hP hsp hS hl hsm hsm4 hc
      go_wp2
      obtain ⟨k0, k1, k2, k3⟩ := EN.out _ 0 none 0 0 [] none rfl B2.out (.nil rfl rfl rfl)
      refine bodyPost_ret (v := .tuple #[.agg #[.int .i64 0, .slice none 0 0], .int .i64 2]) ?_ rfl ⟨⟨_, _, _, rfl, k2⟩, k3⟩
      simp only [results, Tryz.results15]
      simp [go_sem, k0, k1]
    | cons t rest =>
      obtain rfl := hS.addr (by simp)
      have c0 : w2.cell? ⟨b, 0, none⟩ = some (.string t) := hS.cell 0 (by simp)
      have hts := hsm t (by simp)
      obtain ⟨n, v, hnum, hcall⟩ := refNumber_val t hts
      have CN : Hid (∀ w, Calls Tryz.prog 53 #[.string t] w fun e w' => e = .returned (.tuple #[.int .i64 n, .bool v]) ∧ Below w.heap.size w w') := hcall
      have hPA : refAns s t rest = (l, er) := by rw [← hP]; unfold refToldP; rw [hsp]
      have HSS : Hid (Strs w2 (some ⟨b, 0, none⟩) b 0 (t :: rest)) := hS
      obtain ⟨N, hN⟩ : ∃ N, (t :: rest).length = N := ⟨_, rfl⟩
      rw [hN] at hl hc ⊢
      have hrl : rest.length + 1 = N := by simpa using hN
      have HN : Hid (rest.length + 1 = N) := hrl
      have HR4 : Hid (∀ x ∈ rest, x.size ≤ 4000) := fun x hx => hsm4 x (by simp [hx])
      have HTS : Hid (t.size ≤ maxLen) := hts
      have HSP : Hid (splitL s = some (t :: rest)) := hsp
      have hN1 : 1 ≤ N := by omega
      clear hP hsp hS hsm hsm4 hcall hN hts
      go_upto_region 5 with (go_at_call 53; refine (CN.out _).mono ?_; rintro x w3 ⟨rfl, b3⟩; have B3 : Hid (Below W1.heap.size W1 w3) := bel_tr B2.out b3; have HS3 : Hid (Strs w3 (some ⟨b, 0, none⟩) b 0 (t :: rest)) := HSS.out.below b3; clear b3 z0 z1 f0 f1 c0)
      obtain ⟨z0, z1, f0, f1, -⟩ := F0.out _ B3.out
      unfold refAns at hPA
      cases v with
      | false =>
        rw [hnum] at hPA
        have hr : (⟨l, er⟩ : Lg × Int) = (⟨0, []⟩, 2) := by rw [← hPA]; rfl
        cases hr
        clear hPA hnum hrl
        go_wp2
        obtain ⟨k0, k1, k2, k3⟩ := EN.out _ 0 none 0 0 [] none rfl B3.out (.nil rfl rfl rfl)
        refine bodyPost_ret (v := .tuple #[.agg #[.int .i64 0, .slice none 0 0], .int .i64 2]) ?_ rfl ⟨⟨_, _, _, rfl, k2⟩, k3⟩
        simp only [results, Tryz.results15]
        simp [go_sem, k0, k1]
      | true =>
        rw [hnum, if_pos rfl] at hPA
        simp only at hPA
        have hnn : numP t = some n := by rw [hnum, if_pos rfl]
        by_cases h0 : n < 0
        · rw [if_pos h0] at hPA
          cases hPA
          clear hnum hrl hnn
          go_wp2
          obtain ⟨k0, k1, k2, k3⟩ := EN.out _ 0 none 0 0 [] none rfl B3.out (.nil rfl rfl rfl)
          refine bodyPost_ret (v := .tuple #[.agg #[.int .i64 0, .slice none 0 0], .int .i64 2]) ?_ rfl ⟨⟨_, _, _, rfl, k2⟩, k3⟩
          simp only [results, Tryz.results15]
          simp [go_sem, k0, k1]
        · rw [if_neg h0] at hPA
          by_cases h14 : 14 < n
          · rw [if_pos h14] at hPA
            cases hPA
            clear hnum hrl hnn
            go_wp2
            obtain ⟨k0, k1, k2, k3⟩ := EN.out _ 0 none 0 0 [] none rfl B3.out (.nil rfl rfl rfl)
            refine bodyPost_ret (v := .tuple #[.agg #[.int .i64 0, .slice none 0 0], .int .i64 2]) ?_ rfl ⟨⟨_, _, _, rfl, k2⟩, k3⟩
            simp only [results, Tryz.results15]
            simp [go_sem, k0, k1]
          · rw [if_neg h14] at hPA
            by_cases hn0 : n = 0
            · subst hn0
              rw [if_neg (show ¬ ((0 : Int) ≠ 0 ∧ rest.length ≠ 0) from fun k => k.1 rfl)] at hPA
              by_cases hr0 : rest.length = 0
              · rw [if_pos (Or.inr hr0)] at hPA
                cases hPA
                obtain rfl : N = 1 := by omega
                clear hnum hrl hnn hr0
                go_wp2
                obtain ⟨k0, k1, k2, k3⟩ := EN.out _ 0 none 0 0 [] none rfl B3.out (.nil rfl rfl rfl)
                refine bodyPost_ret (v := .tuple #[.agg #[.int .i64 0, .slice none 0 0], .int .i64 0]) ?_ rfl ⟨⟨_, _, _, rfl, k2⟩, k3⟩
                simp only [results, Tryz.results15]
                simp [go_sem, k0, k1]
              · rw [if_neg (show ¬ ((0 : Int) ≠ 0 ∨ rest.length = 0) from fun k => k.elim (fun q => q rfl) hr0)] at hPA
                have hN2 : ¬ (N : Int) = 1 := by omega
                have hN3 : ((N : Int) == 1) = false := beq_eq_false_iff_ne.2 hN2
                have HPA : Hid (refLog s rest = (l, er)) := hPA
                clear hnum hrl hr0 hPA hnn
                go_wp2
                go_loopw [8, 9] (fun v8 v9 wr => ∃ j : Nat, 1 ≤ j ∧ j ≤ N ∧ v9 = .int .i64 j ∧ v8 = .string (catL (rest.take (j - 1))) ∧ Below w3.heap.size w3 wr) (fun _ v9 _ => N - (intOf v9).toNat)
                case atStart => exact ⟨1, by omega, hN1, rfl, rfl, Below.refl _ _⟩
                case round =>
                  obtain ⟨j, hj1, hjN, rfl, rfl, hb⟩ := hrel
                  have HB : Hid (Below w3.heap.size w3 wr) := hb
                  have B4 : Hid (Below W1.heap.size W1 wr) := bel_tr B3.out hb
                  clear hb z0 z1 f0 f1
                  by_cases hlt : j < N
                  · have hk : j - 1 < rest.length := by have := HN.out; omega
                    have cj : wr.cell? ⟨b, j, none⟩ = some (.string rest[j - 1]) := by
                      have h1 := (HS3.out.below HB.out).cell j (by simp; omega)
                      rw [Nat.zero_add] at h1
                      rw [h1]
                      congr 2
                      obtain ⟨i, rfl⟩ : ∃ i, j = i + 1 := ⟨j - 1, by omega⟩
                      simp
                    have hnx := cat_next rest (j - 1) hk
                    have hsz := cat_size (rest.take (j - 1)) (fun x hx => HR4.out x (List.mem_of_mem_take hx))
                    have hsz2 := HR4.out rest[j - 1] (List.getElem_mem hk)
                    have hln : (rest.take (j - 1)).length ≤ 1000 := by rw [List.length_take]; omega
                    rw [show j - 1 + 1 = j by omega] at hnx
                    have ha := fun (w : World) => run_string_add_sum (P := Tryz.prog) w (catL (rest.take (j - 1))) rest[j - 1] (by omega)
                    rw [← hnx] at ha
                    have HNX : Hid (catL (rest.take (j + 1 - 1)) = catL (rest.take j)) := by rw [Nat.add_sub_cancel]; exact rfl
                    clear hnx hsz hsz2 hln
                    generalize rest[j - 1] = y at *
                    generalize catL (rest.take (j - 1)) = X at *
                    generalize catL (rest.take j) = Y at *
                    go_wp2
                    go_roundw
                    case rel => exact ⟨j + 1, by omega, by omega, by go_num, by rw [HNX.out], HB.out⟩
                    case measure => simp [intOf]; omega
                  · obtain rfl : j = N := by omega
                    have hgd : decide ((j : Int) < (j : Int)) = false := decide_eq_false (by omega)
                    have hcat : catL (rest.take (j - 1)) = catL rest := by rw [List.take_of_length_le (by have := HN.out; omega)]
                    have hsz := cat_size rest HR4.out
                    rw [hcat]
                    have hXm : (catL rest).size ≤ maxLen := by have := HN.out; unfold maxLen; omega
                    have hPA2 := HPA.out
                    unfold refLog at hPA2
                    clear hlt hcat hsz HPA
                    generalize catL rest = X at *
                    cases hpp : parseL X with
                    | none =>
                      rw [hpp] at hPA2
                      cases hPA2
                      have CP : Hid (∀ W, Calls Tryz.prog 54 #[.string X] W fun e w' => e = .returned (.tuple #[.agg #[.int .i64 0, .slice none 0 0], .bool false, .bool false]) ∧ Below W.heap.size W w') := fun W => refParse_no X hXm (parse_none hpp) W
                      clear hpp hXm
                      go_upto_region 15 with (go_at_call 54; refine (CP.out _).mono ?_; rintro x w5 ⟨rfl, b5⟩; have B5 : Hid (Below W1.heap.size W1 w5) := bel_tr B4.out b5; clear b5)
                      have B6 : Hid (Below W1.heap.size W1 (w5.alloc (.cells #[.int .i64 0, .slice none 0 0] 34))) := bel_tr B5.out (bel_al _ _)
                      clear B5
                      generalize w5.alloc (.cells #[.int .i64 0, .slice none 0 0] 34) = w6 at *
                      obtain ⟨z0, z1, f0, f1, -⟩ := F0.out _ B6.out
                      go_wp2
                      obtain ⟨k0, k1, k2, k3⟩ := EN.out _ 0 none 0 0 [] none rfl B6.out (.nil rfl rfl rfl)
                      refine bodyPost_ret (v := .tuple #[.agg #[.int .i64 0, .slice none 0 0], .int .i64 2]) ?_ rfl ⟨⟨_, _, _, rfl, k2⟩, k3⟩
                      simp only [results, Tryz.results15]
                      simp [go_sem, k0, k1]
                    | some p =>
                      obtain ⟨⟨ep, es⟩, R⟩ := p
                      rw [hpp] at hPA2
                      simp only at hPA2
                      have hrt := parse_right hpp
                      obtain ⟨wh, hwh⟩ : ∃ wh, decide (R.size = 0) = wh := ⟨_, rfl⟩
                      obtain ⟨m, hm⟩ : ∃ m, es.length = m := ⟨_, rfl⟩
                      have CP : Hid (∀ W, Calls Tryz.prog 54 #[.string X] W fun e w' => (∃ a c g, e = .returned (.tuple #[.agg #[.int .i64 ep, .slice a m c], .bool wh, .bool true]) ∧ Cel (fun k => W.heap.size ≤ k) w' 2 (.slice a m c) m (rowC enC es) g) ∧ Below W.heap.size W w') := fun W => (refParse_yes X hXm _ R hpp wh hwh W).mono fun e w' ⟨⟨a, c, g, h1, h2⟩, h3⟩ => by
                        simp only [hm] at h1 h2
                        exact ⟨⟨a, c, g, h1, h2⟩, h3⟩
                      obtain ⟨J, hJ⟩ : ∃ J, ansT 0 (piecesL (encL ⟨ep, es⟩)) = J := ⟨_, rfl⟩
                      rw [hJ] at hPA2
                      have HM : Hid (es.length = m) := hm
                      have CTo : Hid (∀ (W : World) (a : Option Addr) (c : Nat) (g : Option Nat), Cel (fun q => RB < q) W 2 (.slice a m c) m (rowC enC es) g → Calls Tryz.prog 55 #[.agg #[.int .i64 ep, .slice a m c]] W fun e w' => e = .returned (.string J) ∧ Below W.heap.size W w') := fun W a c g hC => by
                        subst hm
                        exact ref15Told_val (Lie.of_cel wideN hC) ep es.length c rfl hrt J hJ
                      clear hpp hXm hrt hJ hm
                      go_upto_region 15 with (go_at_call 54; refine (CP.out _).mono ?_; rintro x w5 ⟨⟨pa, pc, pg, rfl, hC⟩, b5⟩; have B5 : Hid (Below W1.heap.size W1 w5) := bel_tr B4.out b5; have HC5 : Hid (Cel (fun k => wr.heap.size ≤ k) w5 2 (.slice pa m pc) m (rowC enC es) pg) := hC; clear b5 hC)
                      have B6 : Hid (Below W1.heap.size W1 (w5.alloc (.cells #[.int .i64 ep, .slice pa m pc] 34))) := bel_tr B5.out (bel_al _ _)
                      have HC6 : Hid (Cel (fun q => RB < q) (w5.alloc (.cells #[.int .i64 ep, .slice pa m pc] 34)) 2 (.slice pa m pc) m (rowC enC es) pg) := (HC5.out.below (bel_al _ _)).stay (Nat.le_refl _) (fun _ _ => rfl) (fun z hz => by have h9 : wr.heap.size ≤ z := hz; have := (F0.out _ B4.out).2.2.2.2; omega)
                      have y0 : (w5.alloc (.cells #[.int .i64 ep, .slice pa m pc] 34)).cell? ⟨w5.heap.size, 0, none⟩ = some (.int .i64 ep) := World.cell?_alloc_new w5 _ _ 0
                      have y1 : (w5.alloc (.cells #[.int .i64 ep, .slice pa m pc] 34)).cell? ⟨w5.heap.size, 1, none⟩ = some (.slice pa m pc) := World.cell?_alloc_new w5 _ _ 1
                      clear B5 HC5
                      generalize w5.alloc (.cells #[.int .i64 ep, .slice pa m pc] 34) = w6 at *
                      generalize w5.heap.size = YB at *
                      obtain ⟨z0, z1, f0, f1, -⟩ := F0.out _ B6.out
                      cases wh with
                      | false =>
                        have hR0 : ¬ R.size = 0 := of_decide_eq_false hwh
                        rw [if_neg hR0] at hPA2
                        cases hPA2
                        clear hwh
                        go_wp2
                        obtain ⟨k0, k1, k2, k3⟩ := EN.out _ 0 none 0 0 [] none rfl B6.out (.nil rfl rfl rfl)
                        refine bodyPost_ret (v := .tuple #[.agg #[.int .i64 0, .slice none 0 0], .int .i64 2]) ?_ rfl ⟨⟨_, _, _, rfl, k2⟩, k3⟩
                        simp only [results, Tryz.results15]
                        simp [go_sem, k0, k1]
                      | true =>
                        have hR0 : R.size = 0 := of_decide_eq_true hwh
                        rw [if_pos hR0] at hPA2
                        clear hwh hR0
                        by_cases hJs : J = s
                        · rw [if_pos hJs] at hPA2
                          cases hPA2
                          subst hJs
                          go_wp2_with (go_at_call 55; refine (CTo.out _ _ _ _ HC6.out).mono ?_; rintro x w7 ⟨rfl, b7⟩; have B7 : Hid (Below W1.heap.size W1 w7) := bel_tr B6.out b7; have HC7 : Hid (Cel (fun q => RB < q) w7 2 (.slice pa m pc) m (rowC enC es) pg) := HC6.out.below b7; have x0 := bel_cell b7 y0; have x1 := bel_cell b7 y1; clear b7 y0 y1 z0 z1 f0 f1 HC6 B6; obtain ⟨z0, z1, f0, f1, -⟩ := F0.out _ B7.out)
                          obtain ⟨k0, k1, k2, k3⟩ := EN.out _ ep pa m pc es pg HM.out B7.out HC7.out
                          refine bodyPost_ret (v := .tuple #[.agg #[.int .i64 ep, .slice pa m pc], .int .i64 0]) ?_ rfl ⟨⟨pa, pc, pg, by simp only [HM.out], k2⟩, k3⟩
                          simp only [results, Tryz.results15]
                          simp [go_sem, k0, k1]
                        · rw [if_neg hJs] at hPA2
                          cases hPA2
                          have hbe := bytes_ne hJs
                          go_wp2_with (go_at_call 55; refine (CTo.out _ _ _ _ HC6.out).mono ?_; rintro x w7 ⟨rfl, b7⟩; have B7 : Hid (Below W1.heap.size W1 w7) := bel_tr B6.out b7; have x0 := bel_cell b7 y0; have x1 := bel_cell b7 y1; clear b7 y0 y1 z0 z1 f0 f1 HC6 B6; obtain ⟨z0, z1, f0, f1, -⟩ := F0.out _ B7.out)
                          obtain ⟨k0, k1, k2, k3⟩ := EN.out _ 0 none 0 0 [] none rfl B7.out (.nil rfl rfl rfl)
                          refine bodyPost_ret (v := .tuple #[.agg #[.int .i64 0, .slice none 0 0], .int .i64 2]) ?_ rfl ⟨⟨_, _, _, rfl, k2⟩, k3⟩
                          simp only [results, Tryz.results15]
                          simp [go_sem, k0, k1]
            · have hne : (n != 0) = true := by simp [hn0]
              have hne2 : (n == 0) = false := beq_eq_false_iff_ne.2 hn0
              by_cases hr0 : rest.length = 0
              · rw [if_neg (show ¬ (n ≠ 0 ∧ rest.length ≠ 0) from fun k => k.2 hr0), if_pos (Or.inr hr0)] at hPA
                cases hPA
                obtain rfl : N = 1 := by omega
                clear hnum hrl hnn hr0
                go_wp2
                obtain ⟨k0, k1, k2, k3⟩ := EN.out _ 0 none 0 0 [] none rfl B3.out (.nil rfl rfl rfl)
                refine bodyPost_ret (v := .tuple #[.agg #[.int .i64 0, .slice none 0 0], .int .i64 er]) ?_ rfl ⟨⟨_, _, _, rfl, k2⟩, k3⟩
                simp only [results, Tryz.results15]
                simp [go_sem, k0, k1]
              · rw [if_pos (show n ≠ 0 ∧ rest.length ≠ 0 from ⟨hn0, hr0⟩)] at hPA
                cases hPA
                have hN2 : ¬ (N : Int) = 1 := by omega
                have hN3 : ((N : Int) == 1) = false := beq_eq_false_iff_ne.2 hN2
                clear hnum hrl hnn hr0
                go_wp2
                obtain ⟨k0, k1, k2, k3⟩ := EN.out _ 0 none 0 0 [] none rfl B3.out (.nil rfl rfl rfl)
                refine bodyPost_ret (v := .tuple #[.agg #[.int .i64 0, .slice none 0 0], .int .i64 2]) ?_ rfl ⟨⟨_, _, _, rfl, k2⟩, k3⟩
                simp only [results, Tryz.results15]
                simp [go_sem, k0, k1]

theorem refTold_val (s : ByteArray) (hs : s.size ≤ maxLen) (w : World) : Calls Tryz.prog 15 #[.string s] w fun e w' => LgE w.heap.size (toldP s).1 (toldP s).2 e w' ∧ Below w.heap.size w w' := by
  rw [← refTold_is s]; exact refTold_any s hs w
end Go.Proofs.YtfmhmokbbkliaaaGreat.Jrn

/- Plain: what a request leaves of a node and its disk. -/
namespace Go.Proofs.YtfmhmokbbkliaaaGreat.Jrn
open Go.Proofs.YtfmhmokbbkliaaaGreat Go.Proofs.YtfmhmokbbkliaaaGreat.Wir Go.Proofs.YtfmhmokbbkliaaaGreat.Lgg
set_option linter.unusedVariables false

/-! ### what an answer tells -/
def handE (ds : DS) (j : Nd) (s : ByteArray) : Int := if j.gone = true then 12 else match readQ s with | none => 2 | some r => (doQ ds j r).e
def ErrO (e : Int) : Prop := e = 0 ∨ e = 10 ∨ e = 11 ∨ e = 12
theorem stoR_e (ds : DS) (j : Nd) (r : Rq) : ErrO (doQ ds j r).e := by
  have e0 : ErrO 0 := .inl rfl
  have e10 : ErrO 10 := .inr (.inl rfl)
  have e11 : ErrO 11 := .inr (.inr (.inl rfl))
  have e12 : ErrO 12 := .inr (.inr (.inr rfl))
  have hp : ∀ ep, ErrO (promQ ds j ep).e := fun ep => by
    unfold promQ
    split
    · exact e10
    · split
      · exact e0
      · exact e12
  have hf : ∀ (ds : DS) (j : Nd) ep es, ErrO (fresh ds j ep es).e := fun ds j ep es => by
    unfold fresh
    split
    · exact e0
    · exact e12
  cases r with
  | prom ep => exact hp ep
  | acc ep es =>
    show ErrO (accQ ds j ep es).e
    unfold accQ
    split
    · exact e10
    · split
      · simp only; split
        · exact e0
        · exact e11
      · split
        · split
          · exact hf _ _ ep es
          · exact hp ep
        · exact hf _ _ ep es
  | add ep x =>
    show ErrO (addQ ds j ep x).e
    unfold addQ
    split
    · exact e10
    · split
      · exact e11
      · split
        · simp only; split
          · exact e0
          · exact e11
        · split
          · exact e0
          · exact e12
theorem hand_err {ds : DS} {j : Nd} (hj : NdOk j) (s : ByteArray) : (toldP (handQ ds j s).t).2 = handE ds j s := by
  unfold handQ handE
  split
  · rw [told_err 12 (by omega) (by omega)]
  · rename_i hg
    cases hr : readQ s with
    | none => simp only; rw [told_err 2 (by omega) (by omega)]
    | some r =>
      simp only
      have he := stoR_e ds j r
      split
      · rename_i h1
        rw [h1.1, told_log (doQ_ok hj (by simpa using hg) (readQ_ok hr)).log]
      · unfold ErrO at he
        rw [told_err _ (by omega) (by omega)]
theorem hand_log {ds : DS} {j : Nd} (hj : NdOk j) {s : ByteArray} {ep : Int} (hr : readQ s = some (.prom ep)) (h0 : handE ds j s = 0) : toldP (handQ ds j s).t = ((handQ ds j s).j.l, 0) := by
  unfold handE at h0
  split at h0
  · cases h0
  · rename_i hg
    rw [hr] at h0
    simp only at h0
    unfold handQ
    rw [if_neg hg, hr]
    simp only
    rw [if_pos ⟨h0, rfl⟩, h0, told_log (doQ_ok hj (by simpa using hg) (readQ_ok hr)).log]

/-! ### a request again; an earlier epoch -/
theorem acc_again {ds : DS} {j : Nd} {ep : Int} (es : List En) (h1 : ¬ ep < j.p) (h2 : ep = j.l.ep) : (accQ ds j ep es).j = j := by
  unfold accQ; rw [if_neg h1, if_pos h2]
theorem do_twice {ds : DS} {j : Nd} (hg : j.gone = false) (r : Rq) (hl : (doQ ds j r).j.gone = false) : (doQ (doQ ds j r).ds (doQ ds j r).j r).j = (doQ ds j r).j := by
  have hfr : ∀ (d : DS) (i : Nd) (ep : Int) (es : List En), ¬ ep < i.p → i.gone = false → (fresh d i ep es).j.gone = false → (accQ (fresh d i ep es).ds (fresh d i ep es).j ep es).j = (fresh d i ep es).j := fun d i ep es h1 h2 h3 => by
    unfold fresh at h3 ⊢
    split at h3
    · rename_i h4
      rw [if_pos h4]
      exact acc_again es h1 rfl
    · cases h3
  cases r with
  | prom ep =>
    show (promQ (promQ ds j ep).ds (promQ ds j ep).j ep).j = (promQ ds j ep).j
    change (promQ ds j ep).j.gone = false at hl
    by_cases h : ep ≤ j.p
    · have e : promQ ds j ep = ⟨10, ds, j⟩ := by unfold promQ; rw [if_pos h]
      rw [e]
      simp only
      rw [e]
    · by_cases h2 : (stoR ds prN (encL ⟨ep, []⟩)).1 = 0
      · have e : promQ ds j ep = ⟨0, (stoR ds prN (encL ⟨ep, []⟩)).2, ⟨ep, j.l, j.gone⟩⟩ := by unfold promQ; rw [if_neg h, if_pos h2]
        rw [e]
        simp only
        unfold promQ
        rw [if_pos (Int.le_refl _)]
      · have e : promQ ds j ep = ⟨12, (stoR ds prN (encL ⟨ep, []⟩)).2, deadN⟩ := by unfold promQ; rw [if_neg h, if_neg h2]
        rw [e] at hl
        cases hl
  | acc ep es =>
    show (accQ (accQ ds j ep es).ds (accQ ds j ep es).j ep es).j = (accQ ds j ep es).j
    change (accQ ds j ep es).j.gone = false at hl
    by_cases h1 : ep < j.p
    · have e : accQ ds j ep es = ⟨10, ds, j⟩ := by unfold accQ; rw [if_pos h1]
      rw [e]; simp only; rw [e]
    · by_cases h2 : ep = j.l.ep
      · have e : accQ ds j ep es = ⟨if begB es j.l.es = true then 0 else 11, ds, j⟩ := by unfold accQ; rw [if_neg h1, if_pos h2]
        rw [e]; simp only; rw [e]
      · by_cases h3 : j.p < ep
        · by_cases h4 : (promQ ds j ep).e = 0
          · have e : accQ ds j ep es = fresh (promQ ds j ep).ds (promQ ds j ep).j ep es := by unfold accQ; rw [if_neg h1, if_neg h2, if_pos h3, if_pos h4]
            rw [e] at hl ⊢
            refine hfr _ _ _ _ ?_ ?_ hl
            · rw [promQ_on hg h4]; exact Int.lt_irrefl _
            · rw [promQ_on hg h4]
          · have e : accQ ds j ep es = promQ ds j ep := by unfold accQ; rw [if_neg h1, if_neg h2, if_pos h3, if_neg h4]
            rw [e] at hl
            unfold promQ at hl h4
            split at h4
            · omega
            · rename_i h5
              split at h4
              · cases h4 rfl
              · rename_i h6
                rw [if_neg h5, if_neg h6] at hl
                cases hl
        · have e : accQ ds j ep es = fresh ds j ep es := by unfold accQ; rw [if_neg h1, if_neg h2, if_neg h3]
          rw [e] at hl ⊢
          exact hfr _ _ _ _ h1 hg hl
  | add ep x =>
    show (addQ (addQ ds j ep x).ds (addQ ds j ep x).j ep x).j = (addQ ds j ep x).j
    change (addQ ds j ep x).j.gone = false at hl
    by_cases h1 : ep ≠ j.p ∨ ep ≠ j.l.ep
    · have e : addQ ds j ep x = ⟨10, ds, j⟩ := by unfold addQ; rw [if_pos h1]
      rw [e]; simp only; rw [e]
    · by_cases h2 : ((j.l.es.length : Nat) : Int) + 1 < x.tx
      · have e : addQ ds j ep x = ⟨11, ds, j⟩ := by unfold addQ; rw [if_neg h1, if_pos h2]
        rw [e]; simp only; rw [e]
      · by_cases h3 : x.tx ≤ (j.l.es.length : Nat)
        · have e : addQ ds j ep x = ⟨if j.l.es[x.tx.toNat - 1]? = some x then 0 else 11, ds, j⟩ := by unfold addQ; rw [if_neg h1, if_neg h2, if_pos h3]
          rw [e]; simp only; rw [e]
        · by_cases h4 : (addR ds lgN (encE x)).1 = 0
          · have e : addQ ds j ep x = ⟨0, (addR ds lgN (encE x)).2, ⟨j.p, ⟨j.l.ep, j.l.es ++ [x]⟩, j.gone⟩⟩ := by unfold addQ; rw [if_neg h1, if_neg h2, if_neg h3, if_pos h4]
            rw [e]
            simp only
            unfold addQ
            simp only
            rw [if_neg h1, if_neg (by simp; omega), if_pos (by simp; omega)]
          · have e : addQ ds j ep x = ⟨12, (addR ds lgN (encE x)).2, deadN⟩ := by unfold addQ; rw [if_neg h1, if_neg h2, if_neg h3, if_neg h4]
            rw [e] at hl
            cases hl
theorem hand_twice (ds : DS) (j : Nd) (s : ByteArray) : (handQ (handQ ds j s).ds (handQ ds j s).j s).j = (handQ ds j s).j := by
  by_cases hg : j.gone = true
  · have e : handQ ds j s = ⟨ansT 12 [], ds, j⟩ := by unfold handQ; rw [if_pos hg]
    rw [e]; simp only; rw [e]
  · cases hr : readQ s with
    | none =>
      have e : handQ ds j s = ⟨ansT 2 [], ds, j⟩ := by unfold handQ; rw [if_neg hg, hr]
      rw [e]; simp only; rw [e]
    | some r =>
      have e1 : (handQ ds j s).ds = (doQ ds j r).ds := by unfold handQ; rw [if_neg hg, hr]
      have e2 : (handQ ds j s).j = (doQ ds j r).j := by unfold handQ; rw [if_neg hg, hr]
      rw [e1, e2]
      by_cases hl : (doQ ds j r).j.gone = true
      · unfold handQ; rw [if_pos hl]
      · have e3 : (handQ (doQ ds j r).ds (doQ ds j r).j s).j = (doQ (doQ ds j r).ds (doQ ds j r).j r).j := by unfold handQ; rw [if_neg hl, hr]
        rw [e3]
        exact do_twice (by simpa using hg) r (by simpa using hl)
/-- A promise that was made. -/
theorem hand_prom {ds : DS} {j : Nd} {ep : Int} (h0 : -9223372036854775808 ≤ ep) (h1 : ep ≤ 9223372036854775807) (h : handE ds j (joinT [pT, numT ep]) = 0) : epR ep = true ∧ readQ (joinT [pT, numT ep]) = some (.prom ep) ∧ j.gone = false ∧ j.p < ep ∧ (handQ ds j (joinT [pT, numT ep])).j = ⟨ep, j.l, false⟩ := by
  have hr := read_prom ep h0 h1
  unfold handE at h
  by_cases hg : j.gone = true
  · rw [if_pos hg] at h; cases h
  · rw [if_neg hg] at h
    by_cases he : epR ep = true
    · rw [if_pos he] at hr
      rw [hr] at h
      simp only at h
      change (promQ ds j ep).e = 0 at h
      refine ⟨he, hr, by simpa using hg, ?_, ?_⟩
      · unfold promQ at h
        split at h
        · cases h
        · omega
      · have e : (handQ ds j (joinT [pT, numT ep])).j = (promQ ds j ep).j := by unfold handQ; rw [if_neg hg, hr]; rfl
        rw [e, promQ_on (by simpa using hg) h]
    · rw [if_neg he] at hr
      rw [hr] at h
      cases h
theorem read_small : readQ ⟨#[]⟩ = none := read_empty
/-- Who asks with an earlier epoch changes nothing. -/
theorem hand_late {ds : DS} {j : Nd} {s : ByteArray} (hg : j.gone = false) (hr : ∀ r, readQ s = some r → match r with | .prom e => e < j.p | .acc e _ => e < j.p | .add e _ => e < j.p) : (handQ ds j s).j = j := by
  unfold handQ
  rw [if_neg (by rw [hg]; simp)]
  cases h : readQ s with
  | none => rfl
  | some r =>
    have := hr r h
    cases r with
    | prom e =>
      show (promQ ds j e).j = j
      unfold promQ
      simp only at this
      rw [if_pos (by omega)]
    | acc e es =>
      show (accQ ds j e es).j = j
      unfold accQ
      simp only at this
      rw [if_pos this]
    | add e x =>
      show (addQ ds j e x).j = j
      unfold addQ
      simp only at this
      rw [if_pos (.inl (by omega))]

/-! ### an empty disk -/
def nd0 : Nd := ⟨0, ⟨0, []⟩, false⟩
theorem nd0_ok : NdOk nd0 := ⟨rt_none, rfl, fun e => by cases e⟩
theorem open_none (room : Int) : openQ ⟨room, 0, false, []⟩ = (0, ⟨room, 0, false, []⟩, nd0) := rfl
theorem fil_none (N : Nat) : Fil N [] 0 := ⟨List.Pairwise.nil, (fun _ h => by cases h), .inl ⟨rfl, rfl⟩, Nat.zero_le _, Nat.zero_le _⟩
theorem run_none (room : Int) : Run room ⟨room, 0, false, []⟩ := ⟨rfl, rfl, by simp⟩
end Go.Proofs.YtfmhmokbbkliaaaGreat.Jrn

/- Plain: the examples' answers. -/
namespace Go.Proofs.YtfmhmokbbkliaaaGreat.Jrn
open Go.Proofs.YtfmhmokbbkliaaaGreat Go.Proofs.YtfmhmokbbkliaaaGreat.Wir Go.Proofs.YtfmhmokbbkliaaaGreat.Lgg
set_option linter.unusedVariables false

theorem hand_of {ds : DS} {j : Nd} {s : ByteArray} {r : Rq} (hg : j.gone = false) (hr : readQ s = some r) : handE ds j s = (doQ ds j r).e ∧ (handQ ds j s).ds = (doQ ds j r).ds ∧ (handQ ds j s).j = (doQ ds j r).j := by
  have h : ¬ j.gone = true := by rw [hg]; simp
  unfold handE handQ
  rw [if_neg h, if_neg h, hr]
  exact ⟨rfl, rfl, rfl⟩

abbrev D0 : DS := ⟨1000, 0, false, []⟩
abbrev sP : ByteArray := joinT [pT, numT 1]
abbrev sA : ByteArray := joinT (accTs 1 [])
abbrev xX : En := ⟨1, ⟨#[120]⟩⟩
abbrev xY : En := ⟨3, ⟨#[121]⟩⟩
abbrev sW : ByteArray := joinT [wT, numT 1, numT 1, ⟨#[120]⟩]
abbrev sY : ByteArray := joinT [wT, numT 1, numT 3, ⟨#[121]⟩]
theorem ep_one : epR 1 = true := by decide
theorem rt1 : RtL ⟨1, []⟩ := rt_ep (epR_ok ep_one)
theorem rd_P : readQ sP = some (.prom 1) := by rw [read_prom 1 (by omega) (by omega), if_pos ep_one]
theorem rd_A : readQ sA = some (.acc 1 []) := by rw [read_acc 1 [] rt1, if_pos ep_one]
theorem rd_W : readQ sW = some (.add 1 xX) := by
  have h := read_add 1 (by omega) (by omega) xX (by decide)
  rw [if_pos ep_one] at h
  exact h
theorem rd_Y : readQ sY = some (.add 1 xY) := by
  have h := read_add 1 (by omega) (by omega) xY (by decide)
  rw [if_pos ep_one] at h
  exact h
abbrev j1 : Nd := ⟨1, ⟨0, []⟩, false⟩
abbrev k1 : Nd := ⟨1, ⟨1, []⟩, false⟩
abbrev k2 : Nd := ⟨1, ⟨1, [xX]⟩, false⟩
theorem j1_ok : NdOk j1 := ⟨rt_none, rfl, fun e => by cases e⟩
theorem k1_ok : NdOk k1 := ⟨rt1, rfl, fun e => by cases e⟩
theorem k2_ok : NdOk k2 := ⟨RtL.snoc (es := []) rt1 (by simp) ⟨#[120]⟩ (by decide), rfl, fun e => by cases e⟩

/-- A promise on an empty disk. -/
theorem prom_0 (room : Int) (h : 48 ≤ room) : ∃ ds, promQ ⟨room, 0, false, []⟩ nd0 1 = ⟨0, ds, j1⟩ ∧ Run room ds ∧ ds.fuse = 0 ∧ Fil 0 ds.S 1 ∧ fget ds.S lgL = none := by
  obtain ⟨e, ds', hq, hw⟩ := sto_pr (N := 0) (ds := ⟨room, 0, false, []⟩) (run_none room) (fil_none 0) ep_one (by show ((0 + 24 + 0 + 24 : Nat) : Int) ≤ room; omega)
  rcases hw with ⟨rfl, h1, h2, h3⟩ | ⟨_, h1, _⟩
  · refine ⟨ds', ?_, ⟨h1.room, h1.up, h1.fu⟩, h1.f0 rfl, h2, h3⟩
    unfold promQ
    rw [if_neg (by show ¬ (1 : Int) ≤ 0; omega), hq]
    rfl
  · exact absurd rfl h1.f0
theorem ex_j : handE D0 nd0 sP = 0 ∧ (handQ D0 nd0 sP).j = j1 := by
  obtain ⟨ds, h, _⟩ := prom_0 1000 (by omega)
  obtain ⟨a, b, c⟩ := hand_of (ds := D0) (j := nd0) rfl rd_P
  change handE D0 nd0 sP = (promQ D0 nd0 1).e at a
  change (handQ D0 nd0 sP).j = (promQ D0 nd0 1).j at c
  rw [a, c, h]
  exact ⟨rfl, rfl⟩
theorem ex_j2 (ds : DS) : handE ds j1 sP = 10 ∧ (handQ ds j1 sP).j = j1 ∧ (handQ ds j1 sP).ds = ds := by
  obtain ⟨a, b, c⟩ := hand_of (ds := ds) (j := j1) rfl rd_P
  rw [a, b, c]
  exact ⟨rfl, rfl, rfl⟩
theorem ex_j3 (ds : DS) : handE ds j1 sW = 10 ∧ (handQ ds j1 sW).j = j1 ∧ (handQ ds j1 sW).ds = ds := by
  obtain ⟨a, b, c⟩ := hand_of (ds := ds) (j := j1) rfl rd_W
  rw [a, b, c]
  exact ⟨rfl, rfl, rfl⟩
theorem ex_k : handE D0 nd0 sA = 0 ∧ (handQ D0 nd0 sA).j = k1 ∧ handE (handQ D0 nd0 sA).ds k1 sW = 0 ∧ (handQ (handQ D0 nd0 sA).ds k1 sW).j = k2 := by
  obtain ⟨d1, h, r1, f1, F1, g1⟩ := prom_0 1000 (by omega)
  have hz := enc_pr (epR_ok ep_one)
  obtain ⟨e, d2, hq, hw⟩ := sto_lg (N := 0) r1 F1 rt1 (by rw [g1]; show ((0 + 48 + (encL ⟨1, []⟩).size : Nat) : Int) ≤ 1000; omega) (fun e => absurd f1 e)
  rcases hw with ⟨rfl, h1, F2, g2⟩ | ⟨_, h1, _⟩
  · have hacc : accQ D0 nd0 1 [] = ⟨0, d2, k1⟩ := by
      unfold accQ
      rw [if_neg (by show ¬ (1 : Int) < 0; omega), if_neg (by show ¬ (1 : Int) = 0; omega), if_pos (by show (0 : Int) < 1; omega), h]
      simp only
      rw [if_pos trivial]
      unfold fresh
      rw [hq]
      rfl
    obtain ⟨a, b, c⟩ := hand_of (ds := D0) (j := nd0) rfl rd_A
    change handE D0 nd0 sA = (accQ D0 nd0 1 []).e at a
    change (handQ D0 nd0 sA).ds = (accQ D0 nd0 1 []).ds at b
    change (handQ D0 nd0 sA).j = (accQ D0 nd0 1 []).j at c
    rw [hacc] at a b c
    refine ⟨a, c, ?_⟩
    rw [b]
    simp only
    have hx := encE_size (x := xX) (by decide) (by decide) (by decide)
    have hlen := encB_len ⟨1, []⟩
    obtain ⟨e3, d3, hq3, hw3⟩ := add_lg (N := 0) ⟨h1.room, h1.up, h1.fu⟩ F2 (x := xX) rt1 hx g2 (by rw [g2]; show (((encB ⟨1, []⟩).length + 48 + 0 + (encE xX).size : Nat) : Int) ≤ 1000; omega)
    rcases hw3 with ⟨rfl, h3, _⟩ | ⟨_, h3, _⟩
    · have hadd : addQ d2 k1 1 xX = ⟨0, d3, k2⟩ := by
        unfold addQ
        rw [if_neg (by show ¬ ((1 : Int) ≠ 1 ∨ (1 : Int) ≠ 1); omega), if_neg (by show ¬ ((0 : Nat) : Int) + 1 < 1; omega), if_neg (by show ¬ (1 : Int) ≤ ((0 : Nat) : Int); omega), hq3]
        rfl
      obtain ⟨a, b, c⟩ := hand_of (ds := d2) (j := k1) rfl rd_W
      change handE d2 k1 sW = (addQ d2 k1 1 xX).e at a
      change (handQ d2 k1 sW).j = (addQ d2 k1 1 xX).j at c
      rw [hadd] at a c
      exact ⟨a, c⟩
    · exact absurd (h1.f0 f1) h3.f0
  · exact absurd f1 h1.f0
theorem ex_k3 (ds : DS) : handE ds k2 sY = 11 ∧ (handQ ds k2 sY).j = k2 ∧ (handQ ds k2 sY).ds = ds := by
  obtain ⟨a, b, c⟩ := hand_of (ds := ds) (j := k2) rfl rd_Y
  rw [a, b, c]
  exact ⟨rfl, rfl, rfl⟩
end Go.Proofs.YtfmhmokbbkliaaaGreat.Jrn

/- The contracts of tabulariumlaw15.pick, accept, add, said, begins, asked. -/
namespace Go.Proofs.YtfmhmokbbkliaaaGreat.Jrn
open Go.RowKit Go.Proofs.YtfmhmokbbkliaaaGreat Go.Proofs.YtfmhmokbbkliaaaGreat.Wir Go.Proofs.YtfmhmokbbkliaaaGreat.Lgg Go.Proofs.YtfmhmokbbkliaaaGreat.Sep
open Go.Proofs.YtfmhmokbbkliaaaGreat.Smm (bytes_ne)
set_option linter.unusedVariables false

set_option maxRecDepth 100000 in
theorem pick15_val (k : Int) (n Q : Nat) (w : World) (hk : -9223372036854775808 ≤ k ∧ k ≤ 9223372036854775807) (hn : 0 < n ∧ n ≤ 1000) (hQ : keepN k % n = Q) :
    Calls Tryz.prog 23 #[.int .i64 k, .int .i64 n] w fun e w' => e = .returned (.int .i64 Q) ∧ w' = w := by
  have hlt := Nat.mod_lt (keepN k) hn.1
  rw [hQ] at hlt
  unfold keepN at hQ
  by_cases hneg : k < 0
  · rw [if_pos hneg] at hQ
    obtain ⟨kn, hkn⟩ : ∃ kn, (-(k + 1)).toNat = kn := ⟨_, rfl⟩
    rw [hkn] at hQ
    have hkk : -(k + 1) = (kn : Int) := by omega
    have hr1 : (kn : Int).tmod (n : Int) = (Q : Int) := by rw [Int.tmod_eq_emod_of_nonneg (by omega), ← hQ]; rfl
    have hr2 : (kn : Int) % (n : Int) = (Q : Int) := by rw [← hQ]; rfl
    clear hQ hkn
    go_enter Tryz.func23, Tryz.ntmps23
    go_wp2
    go_ret
    exact ⟨rfl, rfl⟩
  · rw [if_neg hneg] at hQ
    obtain ⟨kn, hkn⟩ : ∃ kn, k.toNat = kn := ⟨_, rfl⟩
    rw [hkn] at hQ
    obtain rfl : k = (kn : Int) := by omega
    have hr1 : (kn : Int).tmod (n : Int) = (Q : Int) := by rw [Int.tmod_eq_emod_of_nonneg (by omega), ← hQ]; rfl
    have hr2 : (kn : Int) % (n : Int) = (Q : Int) := by rw [← hQ]; rfl
    clear hQ hkn
    go_enter Tryz.func23, Tryz.ntmps23
    go_wp2
    go_ret
    exact ⟨rfl, rfl⟩

set_option maxRecDepth 100000 in
theorem said_val (s : ByteArray) (hs : s.size ≤ maxLen) (q : Int) (hq : (toldP s).2 = q) (w : World) :
    Calls Tryz.prog 41 #[.string s] w fun e w' => e = .returned (.int .i64 q) ∧ Below w.heap.size w w' := by
  have hst2 : ∀ (w : World) (a : Addr) (x : Option Addr) (n c : Nat) (m : Mode), (store a (.slice x n c) m).run Tryz.prog w = stored Tryz.prog w a (.slice x n c) m := fun w a x n c m => run_store (P := Tryz.prog) w a _ m rfl
  obtain ⟨⟨⟨ep, es⟩, er⟩, hx⟩ : ∃ x, toldP s = x := ⟨_, rfl⟩
  have CT : Hid (∀ W, Calls Tryz.prog 14 #[.string s] W fun e w' => LgE W.heap.size ⟨ep, es⟩ er e w' ∧ Below W.heap.size W w') := fun W => by have := told_val s hs W; rw [hx] at this; exact this
  rw [hx] at hq
  replace hq : er = q := hq
  subst hq
  clear hx hs
  obtain ⟨n, hn⟩ : ∃ n, es.length = n := ⟨_, rfl⟩
  have HN : Hid (es.length = n) := hn
  clear hn
  go_enter Tryz.func41, Tryz.ntmps41
  go_wp2_with (go_at_call 14; refine (CT.out _).mono ?_; rintro e w1 ⟨⟨a, c, g, hx, hC⟩, b1⟩; simp only [HN.out] at hx; subst hx; have B1 : Hid (Below w.heap.size w w1) := b1; clear b1 hC)
  go_ret
  exact ⟨rfl, bel_tr B1.out (bel_al _ _)⟩

theorem rt_one : RtL ⟨1, []⟩ := ⟨rfl, by simp, fun i h => by simp at h⟩
set_option maxRecDepth 100000 in
theorem accept15_val (w : World) : Calls Tryz.prog 43 #[.int .i64 1, .slice none 0 0] w fun e w' => e = .returned (.string (joinT (accTs 1 []))) ∧ Below w.heap.size w w' := by
  obtain ⟨J, hJ⟩ : ∃ J, joinT (accTs 1 []) = J := ⟨_, rfl⟩
  have CA : Hid (∀ W, Calls Tryz.prog 10 #[.int .i64 1, .slice none 0 0] W fun e w' => e = .returned (.tuple #[.string J, .int .i64 0]) ∧ Below W.heap.size W w') := fun W => accept_yes (Lie.nil enC (fun _ => True) W none) 1 0 0 rfl rt_one J hJ
  rw [hJ]
  clear hJ
  go_enter Tryz.func43, Tryz.ntmps43
  go_wp2_with (go_at_call 10; refine (CA.out _).mono ?_; rintro e w1 ⟨rfl, b1⟩)
  go_ret
  exact ⟨rfl, b1⟩

set_option maxRecDepth 100000 in
theorem add15_val (ep : Int) (h0 : -9223372036854775808 ≤ ep) (h1 : ep ≤ 9223372036854775807) (tx : Int) (d : ByteArray) (hv : addR1 ⟨tx, d⟩ = true) (w : World) : Calls Tryz.prog 42 #[.int .i64 ep, .int .i64 tx, .string d] w fun e w' => e = .returned (.string (joinT [wT, numT ep, numT tx, d])) ∧ Below w.heap.size w w' := by
  obtain ⟨J, hJ⟩ : ∃ J, joinT [wT, numT ep, numT tx, d] = J := ⟨_, rfl⟩
  have CA : Hid (∀ W, Calls Tryz.prog 12 #[.int .i64 ep, .agg #[.int .i64 tx, .string d]] W fun e w' => e = .returned (.tuple #[.string J, .int .i64 0]) ∧ Below W.heap.size W w') := fun W => add_yes ep h0 h1 ⟨tx, d⟩ hv W J hJ
  rw [hJ]
  clear hJ hv h0 h1
  go_enter Tryz.func42, Tryz.ntmps42
  go_wp2_with (go_at_call 12; refine (CA.out _).mono ?_; rintro e w1 ⟨rfl, b1⟩)
  go_ret
  exact ⟨rfl, b1⟩

set_option maxRecDepth 100000 in
set_option maxHeartbeats 2000000 in
theorem begins15_val {O O2 : Nat → Prop} {w : World} {a a' : Option Addr} {xs ys : List En} (h1 : Lie enC O w a xs) (h2 : Lie enC O2 w a' ys) (n m c c' : Nat) (hn : xs.length = n) (hm : ys.length = m) (v : Bool) (hv : v = true ↔ xs.take ys.length = ys) :
    Calls Tryz.prog 40 #[.slice a n c, .slice a' m c'] w fun e w' => e = .returned (.bool v) ∧ Below w.heap.size w w' := by
  have hl1 := h1.lid
  rw [hn] at hl1
  unfold maxLen at hl1
  have H1 : Hid (Lie enC O w a xs) := h1
  have H2 : Hid (Lie enC O2 w a' ys) := h2
  have HN : Hid (xs.length = n) := hn
  have HM : Hid (ys.length = m) := hm
  have HV : Hid (v = true ↔ xs.take ys.length = ys) := hv
  clear h1 h2 hn hm hv
  by_cases hnm : n < m
  · have hvf : v = false := by
      cases v with
      | false => rfl
      | true =>
        have := congrArg List.length (HV.out.1 rfl)
        rw [List.length_take, HN.out, HM.out] at this
        omega
    subst hvf
    clear HV
    go_enter Tryz.func40, Tryz.ntmps40
    go_wp2
    go_ret
    exact ⟨rfl, Below.refl _ _⟩
  · go_enter Tryz.func40, Tryz.ntmps40
    go_wp2
    go_loopw [5] (fun u wr => ∃ i d : Nat, i ≤ m ∧ u = .int .i64 i ∧ wr = w.drewN d ∧ ∀ j (h1 : j < xs.length) (h2 : j < ys.length), j < i → xs[j] = ys[j]) (fun u _ => m - (intOf u).toNat)
    case atStart => exact ⟨0, 0, by omega, rfl, rfl, fun j _ _ h => by omega⟩
    case round =>
      obtain ⟨i, d, hi, rfl, hd, hall⟩ := hrel
      by_cases hlt : i < m
      · have e1 : i < xs.length := by rw [HN.out]; omega
        have e2 : i < ys.length := by rw [HM.out]; exact hlt
        have hb : Below w.heap.size w wr := by rw [hd]; exact bel_dr _ _
        obtain ⟨b, off, rfl, hc⟩ := (H1.out.below hb).at wideN e1
        obtain ⟨b', off', rfl, hc'⟩ := (H2.out.below hb).at wideN e2
        have hno : ¬ xs[i] = ys[i] → v = false := fun hno => by
          cases v with
          | false => rfl
          | true =>
            have h9 := HV.out.1 rfl
            have h8 : (xs.take ys.length)[i]? = ys[i]? := by rw [h9]
            rw [List.getElem?_take, if_pos e2, List.getElem?_eq_getElem e1, List.getElem?_eq_getElem e2] at h8
            exact absurd (Option.some.inj h8) hno
        have HNX : Hid (xs[i] = ys[i] → ∀ j (h1 : j < xs.length) (h2 : j < ys.length), j < i + 1 → xs[j] = ys[j]) := fun hk j h1 h2 hji => by
          rcases Nat.lt_or_ge j i with h | h
          · exact hall j h1 h2 h
          · obtain rfl : j = i := by omega
            exact hk
        have hin : i < n := by omega
        generalize xs[i] = x at *
        generalize ys[i] = y at *
        obtain ⟨tx, dx⟩ := x
        obtain ⟨ty, dy⟩ := y
        have q0 : wr.cell? ⟨b, off + i * 2, none⟩ = some (.int .i64 tx) := hc 0 _ rfl
        have q1 : wr.cell? ⟨b, off + i * 2 + 1, none⟩ = some (.string dx) := hc 1 _ rfl
        have r0 : wr.cell? ⟨b', off' + i * 2, none⟩ = some (.int .i64 ty) := hc' 0 _ rfl
        have r1 : wr.cell? ⟨b', off' + i * 2 + 1, none⟩ = some (.string dy) := hc' 1 _ rfl
        have HD : Hid (wr = w.drewN d) := hd
        clear hd hc hc' hb H1 H2 hall
        by_cases hx : tx = ty
        · by_cases hs : dx = dy
          · have HK : Hid (∀ j (h1 : j < xs.length) (h2 : j < ys.length), j < i + 1 → xs[j] = ys[j]) := HNX.out (by rw [hx, hs])
            subst hx hs
            clear hno HNX
            go_wp2
            go_quiet (fail)
            go_wp2
            go_roundw
            case rel => exact ⟨i + 1, d + nq, by omega, by go_num, by rw [HD.out, World.drewN_drewN], HK.out⟩
            case measure => simp [intOf]; omega
          · have hvf := hno (fun e => by injection e with _ e2; exact hs e2)
            have hbe := bytes_ne hs
            subst hx hvf
            clear hno HNX HV hs
            go_wp2
            go_quiet (fail)
            go_wp2
            go_ret
            exact ⟨rfl, by rw [HD.out, World.drewN_drewN]; exact bel_dr _ _⟩
        · have hvf := hno (fun e => by injection e with e2 _; exact hx e2)
          subst hvf
          clear hno HNX HV
          go_wp2
          go_quiet (fail)
          go_wp2
          go_ret
          exact ⟨rfl, by rw [HD.out, World.drewN_drewN]; exact bel_dr _ _⟩
      · have hvt : v = true := HV.out.2 (List.ext_getElem (by rw [List.length_take, HN.out, HM.out]; omega) (fun j h1 h2 => by rw [List.getElem_take]; exact hall j (by have := HN.out; have := HM.out; omega) h2 (by have := HM.out; omega)))
        subst hvt
        have HD : Hid (wr = w.drewN d) := hd
        clear hd hall HV
        go_wp2
        go_ret
        exact ⟨rfl, by rw [HD.out]; exact bel_dr _ _⟩

/-! ### what a deed asks -/
def rtB (ep : Int) (es : List En) : Bool := epOk ep && decide (es.length ≤ 300) && decide (∀ i : Fin es.length, es[i].tx = ((i.1 + 1 : Nat) : Int) ∧ es[i].d.size ≤ 600)
theorem rtB_iff (ep : Int) (es : List En) : rtB ep es = true ↔ RtL ⟨ep, es⟩ := by
  unfold rtB
  simp only [Bool.and_eq_true, decide_eq_true_eq]
  constructor
  · rintro ⟨⟨h1, h2⟩, h3⟩
    exact ⟨h1, h2, fun i hi => h3 ⟨i, hi⟩⟩
  · rintro ⟨h1, h2, h3⟩
    exact ⟨⟨h1, h2⟩, fun i => h3 i.1 i.2⟩
def askT (k ep : Int) (es : List En) (x : En) (raw : ByteArray) : ByteArray :=
  if keepN k % 8 = 0 then joinT [pT, numT ep]
  else if keepN k % 8 = 1 then (if rtB ep es = true then joinT (accTs ep es) else ⟨#[]⟩)
  else if keepN k % 8 ≤ 4 then (if addR1 x = true then joinT [wT, numT ep, numT x.tx, x.d] else ⟨#[]⟩)
  else raw
theorem ask_small {k ep : Int} {es : List En} {x : En} {raw : ByteArray} (h : raw.size ≤ maxLen) : (askT k ep es x raw).size ≤ maxLen := by
  unfold askT
  split
  · exact join_small
  · split
    · split
      · exact join_small
      · exact Nat.zero_le _
    · split
      · split
        · exact join_small
        · exact Nat.zero_le _
      · exact h

theorem cells8 (w : World) (v0 v1 v2 v3 v4 v5 v6 v7 : Value) (t : TypeId) :
    (w.alloc (.cells #[v0, v1, v2, v3, v4, v5, v6, v7] t)).cell? ⟨w.heap.size, 0, none⟩ = some v0 ∧ (w.alloc (.cells #[v0, v1, v2, v3, v4, v5, v6, v7] t)).cell? ⟨w.heap.size, 1, none⟩ = some v1 ∧ (w.alloc (.cells #[v0, v1, v2, v3, v4, v5, v6, v7] t)).cell? ⟨w.heap.size, 2, none⟩ = some v2 ∧ (w.alloc (.cells #[v0, v1, v2, v3, v4, v5, v6, v7] t)).cell? ⟨w.heap.size, 3, none⟩ = some v3 ∧ (w.alloc (.cells #[v0, v1, v2, v3, v4, v5, v6, v7] t)).cell? ⟨w.heap.size, 4, none⟩ = some v4 ∧ (w.alloc (.cells #[v0, v1, v2, v3, v4, v5, v6, v7] t)).cell? ⟨w.heap.size, 5, none⟩ = some v5 :=
  ⟨World.cell?_alloc_new w _ _ 0, World.cell?_alloc_new w _ _ 1, World.cell?_alloc_new w _ _ 2, World.cell?_alloc_new w _ _ 3, World.cell?_alloc_new w _ _ 4, World.cell?_alloc_new w _ _ 5⟩

set_option maxRecDepth 100000 in
set_option maxHeartbeats 2000000 in
theorem asked_val {O : Nat → Prop} {w : World} (k ep : Int) (a : Option Addr) (n c : Nat) (es : List En) (x : En) (raw : ByteArray) (mm : Int) (ka : Option Addr) (kn kc : Nat) (h : Lie enC O w a es) (hd : ∀ y ∈ es, y.d.size ≤ maxLen) (hk : -9223372036854775808 ≤ k ∧ k ≤ 9223372036854775807) (he : -9223372036854775808 ≤ ep ∧ ep ≤ 9223372036854775807) (hx : x.d.size ≤ maxLen) (hn : es.length = n) (T : ByteArray) (hT : askT k ep es x raw = T) :
    Calls Tryz.prog 29 #[.agg #[.int .i64 k, .int .i64 ep, .slice a n c, .int .i64 x.tx, .string x.d, .string raw, .int .i64 mm, .slice ka kn kc]] w fun e w' => e = .returned (.string T) ∧ Below w.heap.size w w' := by
  obtain ⟨Q, hQ⟩ : ∃ Q, keepN k % 8 = Q := ⟨_, rfl⟩
  have hlt : Q < 8 := by rw [← hQ]; exact Nat.mod_lt _ (by omega)
  have CP : Hid (∀ W, Calls Tryz.prog 23 #[.int .i64 k, .int .i64 8] W fun e w' => e = .returned (.int .i64 Q) ∧ w' = W) := fun W => pick15_val k 8 Q W hk (by omega) hQ
  unfold askT at hT
  rw [hQ] at hT
  obtain ⟨tx, d⟩ := x
  simp only at hx hT ⊢
  obtain ⟨q0, q1, q2, q3, q4, q5⟩ := cells8 w (.int .i64 k) (.int .i64 ep) (.slice a n c) (.int .i64 tx) (.string d) (.string raw) (.int .i64 mm) (.slice ka kn kc) 55
  have HB : Hid (Below w.heap.size w (w.alloc (.cells #[.int .i64 k, .int .i64 ep, .slice a n c, .int .i64 tx, .string d, .string raw, .int .i64 mm, .slice ka kn kc] 55))) := bel_al _ _
  have LW : Hid (Lie enC O (w.alloc (.cells #[.int .i64 k, .int .i64 ep, .slice a n c, .int .i64 tx, .string d, .string raw, .int .i64 mm, .slice ka kn kc] 55)) a es) := h.below (bel_al _ _)
  have HE : Hid ((-9223372036854775808 ≤ ep ∧ ep ≤ 9223372036854775807) ∧ (∀ y ∈ es, y.d.size ≤ maxLen) ∧ d.size ≤ maxLen ∧ es.length = n) := ⟨he, hd, hx, hn⟩
  obtain ⟨R, hR⟩ : ∃ R, w.heap.size = R := ⟨_, rfl⟩
  rw [hR] at q0 q1 q2 q3 q4 q5
  have HR : Hid (w.heap.size = R) := hR
  clear hQ h hd hk he hx hn
  go_enter Tryz.func29, Tryz.ntmps29
  go_upto_region 1 with fail
  try rw [hR]
  clear hR
  generalize w.alloc (.cells #[.int .i64 k, .int .i64 ep, .slice a n c, .int .i64 tx, .string d, .string raw, .int .i64 mm, .slice ka kn kc] 55) = W1 at *
  have hways : Q = 0 ∨ Q = 1 ∨ Q = 2 ∨ Q = 3 ∨ Q = 4 ∨ Q = 5 ∨ Q = 6 ∨ Q = 7 := by omega
  clear hlt
  rcases hways with rfl | rfl | rfl | rfl | rfl | rfl | rfl | rfl
  · rw [if_pos rfl] at hT
    have CC : Hid (∀ W, Calls Tryz.prog 18 #[.int .i64 ep] W fun e w' => e = .returned (.string T) ∧ Below W.heap.size W w') := fun W => refPromise_val ep HE.out.1.1 HE.out.1.2 W T hT
    clear hT
    go_wp2_with (first
      | (go_at_call 23; refine (CP.out _).mono ?_; rintro e w1 ⟨rfl, hwy⟩; have hwz := hwy.symm; subst hwz; clear hwy)
      | (go_at_call 18; refine (CC.out _).mono ?_; rintro e w2 ⟨rfl, b2⟩))
    go_ret
    exact ⟨rfl, bel_tr HB.out b2⟩
  · rw [if_neg (by omega), if_pos rfl] at hT
    cases hv : rtB ep es with
    | true =>
      rw [hv, if_pos rfl] at hT
      have CC : Hid (Calls Tryz.prog 11 #[.int .i64 ep, .slice a n c] W1 fun e w' => e = .returned (.tuple #[.string T, .bool true]) ∧ Below W1.heap.size W1 w') := refAcceptQ_yes LW.out ep n c HE.out.2.2.2 ((rtB_iff _ _).1 hv) T hT
      clear hT hv
      go_wp2_with (first
        | (go_at_call 23; refine (CP.out _).mono ?_; rintro e w1 ⟨rfl, hwy⟩; have hwz := hwy.symm; subst hwz; clear hwy)
        | (go_at_call 11; refine CC.out.mono ?_; rintro e w2 ⟨rfl, b2⟩))
      go_ret
      exact ⟨rfl, bel_tr HB.out b2⟩
    | false =>
      rw [hv, if_neg (by simp)] at hT
      subst hT
      have CC : Hid (Calls Tryz.prog 11 #[.int .i64 ep, .slice a n c] W1 fun e w' => e = .returned (.tuple #[.string ⟨#[]⟩, .bool false]) ∧ Below W1.heap.size W1 w') := refAcceptQ_no LW.out HE.out.2.1 ep n c HE.out.2.2.2 (fun e => by rw [(rtB_iff _ _).2 e] at hv; cases hv)
      clear hv
      go_wp2_with (first
        | (go_at_call 23; refine (CP.out _).mono ?_; rintro e w1 ⟨rfl, hwy⟩; have hwz := hwy.symm; subst hwz; clear hwy)
        | (go_at_call 11; refine CC.out.mono ?_; rintro e w2 ⟨rfl, b2⟩))
      go_ret
      exact ⟨rfl, bel_tr HB.out b2⟩
  all_goals try (
    rw [if_neg (by omega), if_neg (by omega), if_pos (by omega)] at hT
    cases hv : addR1 ⟨tx, d⟩ with
    | true =>
      rw [hv, if_pos rfl] at hT
      have CC : Hid (∀ W, Calls Tryz.prog 13 #[.int .i64 ep, .agg #[.int .i64 tx, .string d]] W fun e w' => e = .returned (.tuple #[.string T, .bool true]) ∧ Below W.heap.size W w') := fun W => refAddQ_yes ep HE.out.1.1 HE.out.1.2 ⟨tx, d⟩ hv W T hT
      clear hT hv
      go_wp2_with (first
        | (go_at_call 23; refine (CP.out _).mono ?_; rintro e w1 ⟨rfl, hwy⟩; have hwz := hwy.symm; subst hwz; clear hwy)
        | (go_at_call 13; refine (CC.out _).mono ?_; rintro e w2 ⟨rfl, b2⟩))
      go_ret
      exact ⟨rfl, bel_tr HB.out b2⟩
    | false =>
      rw [hv, if_neg (by simp)] at hT
      subst hT
      have CC : Hid (∀ W, Calls Tryz.prog 13 #[.int .i64 ep, .agg #[.int .i64 tx, .string d]] W fun e w' => e = .returned (.tuple #[.string ⟨#[]⟩, .bool false]) ∧ Below W.heap.size W w') := fun W => refAddQ_no ep ⟨tx, d⟩ HE.out.2.2.1 hv W
      clear hv
      go_wp2_with (first
        | (go_at_call 23; refine (CP.out _).mono ?_; rintro e w1 ⟨rfl, hwy⟩; have hwz := hwy.symm; subst hwz; clear hwy)
        | (go_at_call 13; refine (CC.out _).mono ?_; rintro e w2 ⟨rfl, b2⟩))
      go_ret
      exact ⟨rfl, bel_tr HB.out b2⟩)
  all_goals
    rw [if_neg (by omega), if_neg (by omega), if_neg (by omega)] at hT
    subst hT
    go_wp2_with (first
      | (go_at_call 23; refine (CP.out _).mono ?_; rintro e w1 ⟨rfl, hwy⟩; have hwz := hwy.symm; subst hwz; clear hwy))
    go_ret
    exact ⟨rfl, HB.out⟩

end Go.Proofs.YtfmhmokbbkliaaaGreat.Jrn

/- A node in a law's walk; the contract of tabulariumlaw15.examples. -/
namespace Go.Proofs.YtfmhmokbbkliaaaGreat.Jrn
open Go.RowKit Go.Proofs.YtfmhmokbbkliaaaGreat Go.Proofs.YtfmhmokbbkliaaaGreat.Wir Go.Proofs.YtfmhmokbbkliaaaGreat.Lgg Go.Proofs.YtfmhmokbbkliaaaGreat.Sep
set_option linter.unusedVariables false

theorem ans_small (e : Int) (ps : List ByteArray) : (ansT e ps).size ≤ maxLen := join_small
theorem hand_small (ds : DS) (j : Nd) (s : ByteArray) : (handQ ds j s).t.size ≤ maxLen := by
  unfold handQ
  split
  · exact ans_small _ _
  · split
    · exact ans_small _ _
    · exact ans_small _ _
theorem cel_nil {O : Nat → Prop} {w : World} {n c : Nat} {es : List En} {g : Option Nat} (h : Cel O w 2 (.slice none n c) n (rowC enC es) g) (hn : es.length = n) : es = [] := by
  obtain ⟨v, hv⟩ : ∃ v, Value.slice none n c = v := ⟨_, rfl⟩
  rw [hv] at h
  cases h with
  | nil h1 h2 h3 => exact List.eq_nil_of_length_eq_zero (by omega)
  | row => rename_i h1 _ _ _ _ _ _ _; rw [h1] at hv; cases hv

section
variable {w w1 : World} {O : Nat → Prop} {L M : List Th} {jp pd : Nat} {ds ds' : DS} {j j' : Nd}
theorem open_hz (h : Hz w O (dsk pd ds :: M) w1) (hq : openQ ds = (0, ds', j)) :
    Calls Tryz.prog 21 #[.pointer (some ⟨pd, 0, none⟩)] w1 fun e w' => ∃ jp, e = .returned (.tuple #[.pointer (some ⟨jp, 0, none⟩), .int .i64 0]) ∧ Hz w O (jr jp pd ds' j :: M) w' := by
  obtain ⟨O1, k1, k2, k3⟩ := h.out 0 rfl
  refine (open_val k1).mono fun e w' hR => ?_
  rw [hq] at hR
  obtain ⟨jp, h1, h2⟩ := hR.yes rfl
  exact ⟨jp, h1, k3 (jr jp pd ds' j) w' h2.done.1 h2.done.2⟩
theorem hand_hz (h : Hz w O L w1) (i : Nat) (hi : L[i]? = some (jr jp pd ds j)) (hj : NdOk j) (s : ByteArray) (hs : s.size ≤ maxLen) (q : Int) (hq : handE ds j s = q) (hj' : (handQ ds j s).j = j') (hd : (handQ ds j s).ds = ds') :
    Calls Tryz.prog 28 #[.pointer (some ⟨jp, 0, none⟩), .string s] w1 fun e w' => ∃ T : ByteArray, e = .returned (.string T) ∧ T.size ≤ maxLen ∧ (toldP T).2 = q ∧ Hz w O (L.set i (jr jp pd ds' j')) w' := by
  refine (h.act i hi (handle_acts hj s hs)).mono fun e w' ⟨h1, h2⟩ => ⟨_, h1, hand_small _ _ _, by rw [hand_err hj, hq], ?_⟩
  rw [hj', hd] at h2
  exact h2
theorem jr_get (h : Hz w O L w1) (i : Nat) (hi : L[i]? = some (jr jp pd ds j)) : ∃ (O1 : Nat → Prop) (a : Option Addr) (c : Nat) (g : Option Nat), w1.cell? ⟨jp, 1, none⟩ = some (.int .i64 j.p) ∧ w1.cell? ⟨jp, 2, none⟩ = some (.int .i64 j.l.ep) ∧ w1.cell? ⟨jp, 3, none⟩ = some (.slice a j.l.es.length c) ∧ w1.cell? ⟨jp, 4, none⟩ = some (.bool j.gone) ∧ Cel O1 w1 2 (.slice a j.l.es.length c) j.l.es.length (rowC enC j.l.es) g := by
  obtain ⟨O1, ⟨a, c, g⟩, hS⟩ := h.get i hi
  have hz : Hz w1 O1 (jrL jp pd ds j a c g) w1 := Hz.start hS
  obtain ⟨x0, x1, x2, x3, x4, fx⟩ := jr_cells hz
  obtain ⟨O3, hC⟩ := jr_row hz
  exact ⟨O3, a, c, g, x1, x2, x3, x4, hC⟩
theorem promised_hz (h : Hz w O L w1) (i : Nat) (hi : L[i]? = some (jr jp pd ds j)) :
    Calls Tryz.prog 39 #[.pointer (some ⟨jp, 0, none⟩)] w1 fun e w' => e = .returned (.int .i64 j.p) ∧ w' = w1 := by
  obtain ⟨O1, a, c, g, x1, x2, x3, x4, hC⟩ := jr_get h i hi
  exact promised_val x1
theorem dead_hz (h : Hz w O L w1) (i : Nat) (hi : L[i]? = some (jr jp pd ds j)) :
    Calls Tryz.prog 38 #[.pointer (some ⟨jp, 0, none⟩)] w1 fun e w' => e = .returned (.bool j.gone) ∧ w' = w1 := by
  obtain ⟨O1, a, c, g, x1, x2, x3, x4, hC⟩ := jr_get h i hi
  exact dead_val x4
theorem log_hz (h : Hz w O L w1) (i : Nat) (hi : L[i]? = some (jr jp pd ds j)) (hj : NdOk j) :
    Calls Tryz.prog 37 #[.pointer (some ⟨jp, 0, none⟩)] w1 fun e w' => LogC w1.heap.size j.l e w' ∧ Below w1.heap.size w1 w' := by
  obtain ⟨O1, a, c, g, x1, x2, x3, x4, hC⟩ := jr_get h i hi
  exact log_val x2 x3 (Lie.of_cel wideN hC) (fun e => by subst e; exact cel_nil hC rfl) rfl (by have := hj.log.2.1; omega)
end

theorem fldL (e : Int) (a : Option Addr) (n c : Nat) (w : World) : (Instr.field 34 (.agg #[.int .i64 e, .slice a n c]) 1).run Tryz.prog w = .ok (.slice a n c) w := by kernel_rfl

set_option maxRecDepth 100000 in
set_option maxHeartbeats 4000000 in
theorem examples15_val (w : World) : Calls Tryz.prog 9 #[] w fun e w' => e = .returned (.bool true) ∧ Below w.heap.size w w' := by
  have CP : Hid (∀ W, Calls Tryz.prog 17 #[.int .i64 1] W fun e w' => e = .returned (.string sP) ∧ Below W.heap.size W w') := fun W => promise_val 1 (by omega) (by omega) W _ rfl
  have CA : Hid (∀ W, Calls Tryz.prog 43 #[.int .i64 1, .slice none 0 0] W fun e w' => e = .returned (.string sA) ∧ Below W.heap.size W w') := accept15_val
  have CW : Hid (∀ W, Calls Tryz.prog 42 #[.int .i64 1, .int .i64 1, .string ⟨#[120]⟩] W fun e w' => e = .returned (.string sW) ∧ Below W.heap.size W w') := add15_val 1 (by omega) (by omega) 1 ⟨#[120]⟩ (by decide)
  have CY : Hid (∀ W, Calls Tryz.prog 42 #[.int .i64 1, .int .i64 3, .string ⟨#[121]⟩] W fun e w' => e = .returned (.string sY) ∧ Below W.heap.size W w') := add15_val 1 (by omega) (by omega) 3 ⟨#[121]⟩ (by decide)
  have SZ : Hid (sP.size ≤ maxLen ∧ sA.size ≤ maxLen ∧ sW.size ≤ maxLen ∧ sY.size ≤ maxLen) := ⟨join_small, join_small, join_small, join_small⟩
  have HN : Hid (∀ ds, openQ ds = openQ ds) := fun _ => rfl
  have EJ : Hid (handE D0 nd0 sP = 0 ∧ (handQ D0 nd0 sP).j = j1) := ex_j
  have EJ2 : Hid (∀ ds, handE ds j1 sP = 10 ∧ (handQ ds j1 sP).j = j1 ∧ (handQ ds j1 sP).ds = ds) := ex_j2
  have EJ3 : Hid (∀ ds, handE ds j1 sW = 10 ∧ (handQ ds j1 sW).j = j1 ∧ (handQ ds j1 sW).ds = ds) := ex_j3
  have EK : Hid (handE D0 nd0 sA = 0 ∧ (handQ D0 nd0 sA).j = k1 ∧ handE (handQ D0 nd0 sA).ds k1 sW = 0 ∧ (handQ (handQ D0 nd0 sA).ds k1 sW).j = k2) := ex_k
  have EK3 : Hid (∀ ds, handE ds k2 sY = 11 ∧ (handQ ds k2 sY).j = k2 ∧ (handQ ds k2 sY).ds = ds) := ex_k3
  have HO : Hid (openQ D0 = (0, D0, nd0)) := open_none 1000
  generalize sP = SP at *
  generalize sA = SA at *
  generalize sW = SW at *
  generalize sY = SY at *
  obtain ⟨e1, e2⟩ := EJ.out
  clear EJ HN
  generalize hd1 : (handQ D0 nd0 SP).ds = d1
  have HD1 : Hid ((handQ D0 nd0 SP).ds = d1) := hd1
  have EJ : Hid (handE D0 nd0 SP = 0 ∧ (handQ D0 nd0 SP).j = j1) := ⟨e1, e2⟩
  clear hd1 e1 e2
  obtain ⟨e1, e2, e3, e4⟩ := EK.out
  clear EK
  obtain ⟨d2, hd2⟩ : ∃ d2, (handQ D0 nd0 SA).ds = d2 := ⟨_, rfl⟩
  rw [hd2] at e3 e4
  obtain ⟨d3, hd3⟩ : ∃ d3, (handQ d2 k1 SW).ds = d3 := ⟨_, rfl⟩
  have EK : Hid ((handE D0 nd0 SA = 0 ∧ (handQ D0 nd0 SA).j = k1 ∧ (handQ D0 nd0 SA).ds = d2) ∧ (handE d2 k1 SW = 0 ∧ (handQ d2 k1 SW).j = k2 ∧ (handQ d2 k1 SW).ds = d3)) := ⟨⟨e1, e2, hd2⟩, ⟨e3, e4, hd3⟩⟩
  clear e1 e2 e3 e4 hd2 hd3
  have hst2 : ∀ (w : World) (a : Addr) (x : Option Addr) (n c : Nat) (m : Mode), (store a (.slice x n c) m).run Tryz.prog w = stored Tryz.prog w a (.slice x n c) m := fun w a x n c m => run_store (P := Tryz.prog) w a _ m rfl
  have hfl := fldL
  go_enter Tryz.func9, Tryz.ntmps9
  go_wp2_with fail
  refine (new_hz (hz_none w) 1000 1000 (by omega) (by omega)).mono ?_
  rintro e w1 ⟨dj, rfl, hz⟩
  have HZ1 : Hid (Hz w (fun _ => False) [dsk dj D0] w1) := hz
  clear hz
  go_wp2_with fail
  refine (open_hz HZ1.out HO.out).mono ?_
  rintro e w2 ⟨jp, rfl, hz⟩
  have HZ2 : Hid (Hz w (fun _ => False) [jr jp dj D0 nd0] w2) := hz
  clear hz HZ1
  go_wp2_with fail
  refine (new_hz HZ2.out 1000 1000 (by omega) (by omega)).mono ?_
  rintro e w3 ⟨dk, rfl, hz⟩
  have HZ3 : Hid (Hz w (fun _ => False) [dsk dk D0, jr jp dj D0 nd0] w3) := hz
  clear hz HZ2
  go_wp2_with fail
  refine (open_hz HZ3.out HO.out).mono ?_
  rintro e w4 ⟨kp, rfl, hz⟩
  have HZ4 : Hid (Hz w (fun _ => False) [jr kp dk D0 nd0, jr jp dj D0 nd0] w4) := hz
  clear hz HZ3
  go_wp2_with fail
  refine (CP.out _).mono ?_
  rintro e w5 ⟨rfl, b⟩
  have HZ5 : Hid (Hz w (fun _ => False) [jr kp dk D0 nd0, jr jp dj D0 nd0] w5) := HZ4.out.below b
  clear b HZ4
  go_wp2_with fail
  refine (hand_hz HZ5.out 1 rfl nd0_ok _ SZ.out.1 0 EJ.out.1 EJ.out.2 HD1.out).mono ?_
  rintro e w6 ⟨T, rfl, hT, hq, hz⟩
  have HZ6 : Hid (Hz w (fun _ => False) [jr kp dk D0 nd0, jr jp dj d1 j1] w6) := hz
  clear hz HZ5
  go_wp2_with fail
  refine (said_val T hT 0 hq _).mono ?_
  rintro e w7 ⟨rfl, b⟩
  have HZ7 : Hid (Hz w (fun _ => False) [jr kp dk D0 nd0, jr jp dj d1 j1] w7) := HZ6.out.below b
  clear b HZ6 hT hq
  go_wp2_with fail
  refine (CP.out _).mono ?_
  rintro e w8 ⟨rfl, b⟩
  have HZ8 : Hid (Hz w (fun _ => False) [jr kp dk D0 nd0, jr jp dj d1 j1] w8) := HZ7.out.below b
  clear b HZ7
  go_wp2_with fail
  refine (hand_hz HZ8.out 1 rfl j1_ok _ SZ.out.1 10 (EJ2.out d1).1 (EJ2.out d1).2.1 (EJ2.out d1).2.2).mono ?_
  rintro e w9 ⟨T, rfl, hT, hq, hz⟩
  have HZ9 : Hid (Hz w (fun _ => False) [jr kp dk D0 nd0, jr jp dj d1 j1] w9) := hz
  clear hz HZ8
  go_wp2_with fail
  refine (said_val T hT 10 hq _).mono ?_
  rintro e w10 ⟨rfl, b⟩
  have HZ10 : Hid (Hz w (fun _ => False) [jr kp dk D0 nd0, jr jp dj d1 j1] w10) := HZ9.out.below b
  clear b HZ9 hT hq
  go_wp2_with fail
  refine (CW.out _).mono ?_
  rintro e w11 ⟨rfl, b⟩
  have HZ11 : Hid (Hz w (fun _ => False) [jr kp dk D0 nd0, jr jp dj d1 j1] w11) := HZ10.out.below b
  clear b HZ10
  go_wp2_with fail
  refine (hand_hz HZ11.out 1 rfl j1_ok _ SZ.out.2.2.1 10 (EJ3.out d1).1 (EJ3.out d1).2.1 (EJ3.out d1).2.2).mono ?_
  rintro e w12 ⟨T, rfl, hT, hq, hz⟩
  have HZ12 : Hid (Hz w (fun _ => False) [jr kp dk D0 nd0, jr jp dj d1 j1] w12) := hz
  clear hz HZ11
  go_wp2_with fail
  refine (said_val T hT 10 hq _).mono ?_
  rintro e w13 ⟨rfl, b⟩
  have HZ13 : Hid (Hz w (fun _ => False) [jr kp dk D0 nd0, jr jp dj d1 j1] w13) := HZ12.out.below b
  clear b HZ12 hT hq
  go_wp2_with fail
  refine (CA.out _).mono ?_
  rintro e w14 ⟨rfl, b⟩
  have HZ14 : Hid (Hz w (fun _ => False) [jr kp dk D0 nd0, jr jp dj d1 j1] w14) := HZ13.out.below b
  clear b HZ13
  go_wp2_with fail
  refine (hand_hz HZ14.out 0 rfl nd0_ok _ SZ.out.2.1 0 EK.out.1.1 EK.out.1.2.1 EK.out.1.2.2).mono ?_
  rintro e w15 ⟨T, rfl, hT, hq, hz⟩
  have HZ15 : Hid (Hz w (fun _ => False) [jr kp dk d2 k1, jr jp dj d1 j1] w15) := hz
  clear hz HZ14
  go_wp2_with fail
  refine (said_val T hT 0 hq _).mono ?_
  rintro e w16 ⟨rfl, b⟩
  have HZ16 : Hid (Hz w (fun _ => False) [jr kp dk d2 k1, jr jp dj d1 j1] w16) := HZ15.out.below b
  clear b HZ15 hT hq
  go_wp2_with fail
  refine (CW.out _).mono ?_
  rintro e w17 ⟨rfl, b⟩
  have HZ17 : Hid (Hz w (fun _ => False) [jr kp dk d2 k1, jr jp dj d1 j1] w17) := HZ16.out.below b
  clear b HZ16
  go_wp2_with fail
  refine (hand_hz HZ17.out 0 rfl k1_ok _ SZ.out.2.2.1 0 EK.out.2.1 EK.out.2.2.1 EK.out.2.2.2).mono ?_
  rintro e w18 ⟨T, rfl, hT, hq, hz⟩
  have HZ18 : Hid (Hz w (fun _ => False) [jr kp dk d3 k2, jr jp dj d1 j1] w18) := hz
  clear hz HZ17
  go_wp2_with fail
  refine (said_val T hT 0 hq _).mono ?_
  rintro e w19 ⟨rfl, b⟩
  have HZ19 : Hid (Hz w (fun _ => False) [jr kp dk d3 k2, jr jp dj d1 j1] w19) := HZ18.out.below b
  clear b HZ18 hT hq
  go_wp2_with fail
  refine (CY.out _).mono ?_
  rintro e w20 ⟨rfl, b⟩
  have HZ20 : Hid (Hz w (fun _ => False) [jr kp dk d3 k2, jr jp dj d1 j1] w20) := HZ19.out.below b
  clear b HZ19
  go_wp2_with fail
  refine (hand_hz HZ20.out 0 rfl k2_ok _ SZ.out.2.2.2 11 (EK3.out d3).1 (EK3.out d3).2.1 (EK3.out d3).2.2).mono ?_
  rintro e w21 ⟨T, rfl, hT, hq, hz⟩
  have HZ21 : Hid (Hz w (fun _ => False) [jr kp dk d3 k2, jr jp dj d1 j1] w21) := hz
  clear hz HZ20
  go_wp2_with fail
  refine (said_val T hT 11 hq _).mono ?_
  rintro e w22 ⟨rfl, b⟩
  have HZ22 : Hid (Hz w (fun _ => False) [jr kp dk d3 k2, jr jp dj d1 j1] w22) := HZ21.out.below b
  clear b HZ21 hT hq
  go_wp2_with (first
    | (go_at_call 39; refine (promised_hz HZ22.out 1 rfl).mono ?_; rintro e w23 ⟨hx, hwy⟩; have hx2 : e = .returned (.int .i64 1) := hx; subst hx2; have hwz := hwy.symm; subst hwz; clear hwy)
    | (go_at_call 37; refine (log_hz HZ22.out 0 rfl k2_ok).mono ?_; rintro e w24 ⟨⟨a, c, g, hx, hC⟩, b⟩; have hx2 : e = .returned (.agg #[.int .i64 1, .slice a 1 c]) := hx; subst hx2; have HZ24 : Hid (Hz w (fun _ => False) [jr kp dk d3 k2, jr jp dj d1 j1] w24) := HZ22.out.below b; clear b hC))
  go_ret
  exact ⟨rfl, hz_bel HZ24.out⟩

end Go.Proofs.YtfmhmokbbkliaaaGreat.Jrn
