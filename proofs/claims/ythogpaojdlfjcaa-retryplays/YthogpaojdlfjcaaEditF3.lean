/- The contract of edit.numbers. -/
import Derived.Test.YthogpaojdlfjcaaEditF2
import Derived.Deep.AppendSrc
import Derived.Lib.UnsafeStr
import Derived.Laws.IdiomStrings
import Derived.Laws.BytesArg
namespace Go.Proofs.Ythogpaojdlfjcaa.Edi
open Go.RowKit Go.Proofs.Ythogpaojdlfjcaa Go.Proofs.Ythogpaojdlfjcaa.Wir

/-! ### bytes of the call's own -/
structure BO (base : Nat) (w : World) (a : Option Addr) (n c : Nat) (l : List UInt8) (g : Option Nat) : Prop where
  cel : Cel (fun k => base ≤ k) w 1 (.slice a n c) n (Lib.byteCells l) g
  len : l.length = n

theorem BO.none (base : Nat) (w : World) : BO base w .none 0 0 [] .none := ⟨.nil rfl rfl rfl, rfl⟩
theorem BO.below {base : Nat} {w w' : World} {a : Option Addr} {n c : Nat} {l : List UInt8} {g : Option Nat} (h : BO base w a n c l g) (hb : Below w.heap.size w w') : BO base w' a n c l g := ⟨h.cel.below hb, h.len⟩
theorem BO.own {base : Nat} {w : World} {a : Option Addr} {n c : Nat} {l : List UInt8} {g : Option Nat} (h : BO base w a n c l g) : ∀ k, g = some k → k < w.heap.size ∧ base ≤ k := fun k hk => by
  have := h.cel; rw [hk] at this; exact this.lt
theorem bytes_cells (l : List UInt8) : byteCells ⟨l.toArray⟩ = Lib.byteCells l := by simp [byteCells, Lib.byteCells]
theorem BO.app {base : Nat} {w w' : World} {a a' : Option Addr} {n c m c' : Nat} {l x : List UInt8} {g g' : Option Nat} (h : BO base w a n c l g) (hm : x.length = m)
    (hC : Cel (Grow (fun k => base ≤ k) w w') w' 1 (.slice a' (n + m) c') (n + m) (Lib.byteCells l ++ byteCells ⟨x.toArray⟩) g') (hB : base ≤ w.heap.size) : BO base w' a' (n + m) c' (l ++ x) g' := by
  refine ⟨?_, by rw [List.length_append, h.len, hm]⟩
  have e : Lib.byteCells l ++ byteCells ⟨x.toArray⟩ = Lib.byteCells (l ++ x) := by rw [bytes_cells]; simp [Lib.byteCells]
  rw [e] at hC
  exact hC.stay (Nat.le_refl _) (fun _ _ => rfl) (fun k hk => hk.elim id (fun e => Nat.le_trans hB e.1))
theorem BO.appBelow {base : Nat} {w w' : World} {a : Option Addr} {n c : Nat} {l : List UInt8} {g : Option Nat} (h : BO base w a n c l g) (hS : Stay (fun k => g = some k) w w') (hB : base ≤ w.heap.size) : Below base w w' :=
  hS.below hB (fun k hk => (h.own k hk).2)
/-- 'string(b)'. -/
theorem BO.text {base : Nat} {w : World} {a : Option Addr} {n c : Nat} {l : List UInt8} {g : Option Nat} (h : BO base w a n c l g) : (convert 85 9 (.slice a n c)).run Try.prog w = .ok (.string ⟨l.toArray⟩) w := by
  have hl := h.len
  have hc := h.cel
  generalize hv : Value.slice a n c = v at *
  cases hc with
  | nil h1 h2 h3 =>
    rw [← hv] at h1 ⊢
    cases h1
    obtain rfl : l = [] := List.length_eq_zero_iff.1 hl
    exact run_convert_bytes_nil _ 85 5 Try.underlying85 Try.underlying5 0 0 9 Try.underlying9
  | row g cap h1 h2 h3 h4 h5 h6 h7 h8 =>
    rw [h1, ← hl]
    refine run_convert_bytes_back (P := Try.prog) w 85 9 5 ⟨g, 0, Option.none⟩ cap l Try.underlying85 Try.underlying5 Try.underlying9 (fun j hj => ?_)
    rw [Addr.add_lit, Nat.zero_add, h7 j (by simpa [Lib.byteCells] using hj)]
    simp [Lib.byteCells]

theorem numsB_take (zs : List Int) (i : Nat) (hi : i < zs.length) : numsB (zs.take (i + 1)) = numsB (zs.take i) ++ numB zs[i] := by
  rw [List.take_succ_eq_append_getElem hi, numsB_snoc]

set_option maxRecDepth 100000 in
set_option maxHeartbeats 1000000 in
theorem numbers_val {a : Option Addr} {m q : Nat} {zs : List Int} {w : World} (h : Nm w a m zs) (h8 : m ≤ 8) (hr : ∀ z ∈ zs, -9223372036854775808 ≤ z ∧ z ≤ 9223372036854775807) (l : List UInt8) (hl : numsB zs = l) :
    Calls Try.prog 27 #[.slice a m q] w fun e w' => e = .returned (.string ⟨l.toArray⟩) ∧ Below w.heap.size w w' := by
  obtain ⟨i0, hi, hz0, hz1, hz2⟩ := info_parts Try.infoByte
  have HN : Hid (zs.length = m) := h.len
  have HC : Hid _ := h
  have HR : Hid (∀ z ∈ zs, -9223372036854775808 ≤ z ∧ z ≤ 9223372036854775807) := hr
  have HL : Hid (numsB zs = l) := hl
  clear h hr hl
  go_enter Try.func27, Try.ntmps27
  go_wp2
  go_loopw [3, 8] (fun v c wr => ∃ (i : Nat) (fa : Option Addr) (fn fc : Nat) (g : Option Nat), i ≤ m ∧ c = .int .i64 i ∧ v = .slice fa fn fc ∧ BO w.heap.size wr fa fn fc (numsB (zs.take i)) g ∧ Below w.heap.size w wr) (fun _ c _ => m - (intOf c).toNat)
  case atStart => exact ⟨0, none, 0, 0, none, by omega, rfl, rfl, BO.none _ _, Below.refl _ _⟩
  case round =>
    obtain ⟨i, fa, fn, fc, g, hil, rfl, rfl, hO, hb⟩ := hrel
    have HB : Hid (Below w.heap.size w wr) := hb
    have HO : Hid (BO w.heap.size wr fa fn fc (numsB (zs.take i)) g) := hO
    by_cases hlt : i < m
    · have hix : i < zs.length := by rw [HN.out]; exact hlt
      obtain ⟨b, off, rfl, hat⟩ := (HC.out.below hb).at (by omega)
      have e0 := hat i hix
      have hfn : fn ≤ 80 := by
        have h1 := hO.len
        have h2 := numsB_len (zs.take i) (fun z hz => HR.out z (List.mem_of_mem_take hz))
        rw [List.length_take] at h2
        omega
      have HT : Hid (numsB (zs.take (i + 1)) = numsB (zs.take i) ++ numB zs[i]) := numsB_take zs i hix
      have hzr := HR.out zs[i] (List.getElem_mem hix)
      have hz10 := numB_len hzr.1 hzr.2
      have hz0' := hzr.1
      have hz1' := hzr.2
      clear hO hb hat hzr
      generalize zs[i] = z at *
      generalize hnb : numB z = nb at *
      have HNB : Hid (numB z = nb) := hnb
      obtain ⟨nl, hnl⟩ : ∃ nl, nb.length = nl := ⟨_, rfl⟩
      have HNL : Hid (nb.length = nl) := hnl
      rw [hnl] at hz10
      have HSZ : Hid ((⟨nb.toArray⟩ : ByteArray).size = nl) := by show (_ : Nat) = _; rw [mk_size]; exact hnl
      clear hnb hnl
      go_wp2_with (first
        | (go_at_call 34; refine (num_val z nb _ hz0' hz1' HNB.out).mono ?_; rintro e w1 ⟨rfl, b1⟩; have HB1 : Hid (Below w.heap.size w w1) := bel_tr HB.out b1; have HO1 : Hid (BO w.heap.size w1 fa fn fc (numsB (zs.take i)) g) := HO.out.below b1; clear b1)
        | (at_builtin; refine wpList_append_cel _ rfl _ _ 85 9 rfl 5 i0 _ 1 1 Try.underlying85 hi hz0 hz1 hz2 rfl (O := fun k => w.heap.size ≤ k) _ fn _ g rfl HO1.out.cel _ nl (byteCells ⟨nb.toArray⟩) rfl (by have hs := Src.ofString (P := Try.prog) w1 Try.underlying9 ⟨nb.toArray⟩; rw [HSZ.out] at hs; exact hs) (by unfold maxLen; omega) (by omega) ?_; intro a2 c2 w2 g2 hC2 hS2 hg2; have A2 : Hid _ := HO1.out.app HNL.out hC2 HB1.out.size; have B2 : Hid _ := HO1.out.appBelow hS2 HB1.out.size; clear hC2 hS2 hg2))
      go_roundw
      case rel => exact ⟨i + 1, a2, fn + nl, c2, g2, by omega, by go_num, rfl, by rw [HT.out]; exact A2.out, HB1.out.trans B2.out⟩
      case measure => simp [intOf]; omega
    · obtain rfl : i = m := by omega
      have hgd : decide ((i : Int) < (i : Int)) = false := decide_eq_false (by omega)
      rw [List.take_of_length_le (by rw [HN.out]; omega), HL.out] at hO
      have hcv := hO.text
      clear hb hlt hO HO
      go_wp2
      go_ret
      exact ⟨rfl, HB.out⟩

end Go.Proofs.Ythogpaojdlfjcaa.Edi
