/- The contracts of wire.Real and wire.TakeReal. -/
import Derived.Test.YtoppdclmahelmabWireText
namespace Go.Proofs.Ytoppdclmahelmab
open Go.RowKit

theorem run_bits (b : Nat) (w : World) : (callFunc 15 #[.float .f64 b]).run Try.prog w = .ok (.value (.int .u64 b)) w := by
  rw [run_callFunc_extern Try.func15 (by kernel_rfl) (by kernel_rfl) (by kernel_rfl) (e := Extern.MathFloatBits.float64bits) (by kernel_rfl)]; rfl
theorem run_frombits (z : Int) (w : World) : (callFunc 17 #[.int .u64 z]).run Try.prog w = .ok (.value (.float .f64 z.toNat)) w := by
  rw [run_callFunc_extern Try.func17 (by kernel_rfl) (by kernel_rfl) (by kernel_rfl) (e := Extern.MathFloatBits.float64frombits) (by kernel_rfl)]; rfl

/-- The one form of what is not a number. -/
def nanW : Nat := 9221120237041090561
/-- Are these bits of what is not a number? -/
def nanB (b : Nat) : Bool := FloatKind.f64.format.order b b != some Ordering.eq
/-- The bits that are written. -/
def realZ (b : Nat) : Nat := if nanB b then nanW else b

/-- The i-th of the eight bytes of z, the greatest first. -/
def beAt (z i : Nat) : UInt8 := (z / 2 ^ (8 * (7 - i))).toUInt8
/-- The first k of them, and noughts. -/
def beRow (z k : Nat) : List UInt8 := (List.range 8).map fun i => if i < k then beAt z i else 0
/-- All eight. -/
def beB (z : Nat) : List UInt8 := (List.range 8).map (beAt z)

theorem beRow_zero (z : Nat) : beRow z 0 = List.replicate 8 0 := by simp [beRow]; rfl
theorem beRow_all (z : Nat) : beRow z 8 = beB z := by
  unfold beRow beB
  apply List.map_congr_left
  intro i hi
  rw [if_pos (by simpa using hi)]
theorem beRow_len (z k : Nat) : (beRow z k).length = 8 := by simp [beRow]
theorem beRow_set (z k : Nat) : (beRow z k).set k (beAt z k) = beRow z (k + 1) := by
  apply List.ext_getElem
  · simp [beRow]
  · intro i h1 h2
    rw [List.getElem_set]
    simp only [beRow, List.getElem_map, List.getElem_range]
    by_cases h : k = i
    · subst h; simp
    · rw [if_neg h]
      by_cases h3 : i < k
      · rw [if_pos h3, if_pos (by omega)]
      · rw [if_neg h3, if_neg (by omega)]
theorem byteCells_set (l : List UInt8) (k : Nat) (b : UInt8) : (Lib.byteCells l).set k (.int .u8 b.toNat) = Lib.byteCells (l.set k b) := by
  simp [Lib.byteCells, List.map_set]
theorem beAt_int (z k : Nat) : ((z : Int) / 2 ^ (8 * (7 - k))) % 256 = ((beAt z k).toNat : Int) := by
  unfold beAt
  have e : ((z : Int) / 2 ^ (8 * (7 - k))) = ((z / 2 ^ (8 * (7 - k)) : Nat) : Int) := by
    rw [Int.natCast_ediv, Int.natCast_pow]; rfl
  rw [e]
  generalize z / 2 ^ (8 * (7 - k)) = q
  simp [Nat.toUInt8, UInt8.toNat_ofNat']

theorem made8 : (madeCells (Value.int IntKind.u8 0).cells (8 * 1)).toList = Lib.byteCells (List.replicate 8 0) := by
  show (madeCells #[Value.int IntKind.u8 0] 8).toList = _
  rw [toList_madeCells_one]; rfl

set_option maxRecDepth 100000 in
set_option maxHeartbeats 1000000 in
theorem real_any (b : Nat) (w : World) :
    Calls Try.prog 9 #[.float .f64 b] w fun e w' => e = .returned (.string ⟨(beB (realZ b)).toArray⟩) ∧ Below w.heap.size w w' := by
  obtain ⟨i0, hi, hz0, hz1, hz2⟩ := info_parts Try.infoByte
  have hrb := run_bits
  obtain ⟨Z, hZ⟩ : ∃ Z, realZ b = Z := ⟨_, rfl⟩
  rw [hZ]
  have hn : nanB b = true ∧ nanW = Z ∨ nanB b = false ∧ b = Z := by
    rw [← hZ]; unfold realZ; cases nanB b <;> simp
  clear hZ
  rcases hn with ⟨hn, hz⟩ | ⟨hn, hz⟩
  all_goals
    have HZ : Hid _ := hz
    clear hz
    unfold nanB at hn
    go_enter Try.func9, Try.ntmps9
    go_wp2_with (first
      | (at_make; refine wpList_make_full _ rfl _ _ 41 rfl w.heap.size 5 i0 (.int .u8 0) 1 Try.underlying41 hi hz0 hz1 .i64 .i64 8 8 8 rfl rfl rfl rfl (by omega) (by decide) (Nat.le_refl _) ?_; intro w1 hown0 hgrow0)
      | go_in)
    have hb0 : Below w.heap.size w w1 := (Below.refl _ _).grown hgrow0 (Nat.le_refl _) (by simp)
    rw [made8] at hown0
    first
    | rw [show Value.int IntKind.u64 9221120237041090561 = Value.int IntKind.u64 (Z : Int) from congrArg (fun n : Nat => Value.int IntKind.u64 (n : Int)) HZ.out]
    | rw [show Value.int IntKind.u64 (b : Int) = Value.int IntKind.u64 (Z : Int) from congrArg (fun n : Nat => Value.int IntKind.u64 (n : Int)) HZ.out]
    clear hgrow0 hn hrb HZ
    go_loopw [13] (fun c wr => ∃ k : Nat, k ≤ 8 ∧ c = .int .i64 k ∧ wr.ownsRow w.heap.size 5 1 (.slice (some ⟨w.heap.size, 0, none⟩) 8 8) 8 (Lib.byteCells (beRow Z k)) ∧ Below w.heap.size w wr) (fun c _ => 8 - (intOf c).toNat)
    case atStart => exact ⟨0, by omega, rfl, by rw [beRow_zero]; exact hown0, hb0⟩
    case round =>
      obtain ⟨k, hk, rfl, hown, hbel⟩ := hrel
      by_cases hlt : k < 8
      · have hfz := hown.frozenAt k
        have hcl : ∃ u, wr.cell? ⟨w.heap.size, k, none⟩ = some u := ⟨_, (hown.cellAt k (by omega)).trans (List.getElem?_eq_getElem (by simp [Lib.byteCells, beRow]; exact hlt))⟩
        obtain ⟨u, hcl⟩ := hcl
        obtain ⟨hst, hgr⟩ := hown.stored k (.int .u8 ((beAt Z k).toNat : Int))
        rw [byteCells_set, beRow_set] at hst
        have hbel2 := hbel.grown hgr hbel.size (by simp)
        have hat := beAt_int Z k
        clear hown hbel hown0 hb0 hgr
        go_wp2
        go_roundw
        case rel => exact ⟨k + 1, by omega, by go_num, hst, hbel2⟩
        case measure => simp [intOf]; omega
      · obtain rfl : k = 8 := by omega
        rw [beRow_all] at hown
        obtain ⟨g, cap, hv, hn8, hcells⟩ := own_cells hown (by omega)
        have hl8 : (beB Z).length = 8 := by simp [beB]
        simp only [Value.slice.injEq, Option.some.injEq, Addr.mk.injEq, and_true] at hv
        obtain ⟨rfl, hn9, rfl⟩ := hv
        have hcv := run_convert_bytes_back (P := Try.prog) wr 41 9 5 ⟨w.heap.size, 0, none⟩ 8 (beB Z) Try.underlying41 Try.underlying5 Try.underlying9 hcells
        rw [hl8] at hcv
        clear hown hcells hown0 hb0 hl8 hn8 hn9
        go_wp2
        go_ret
        exact ⟨rfl, hbel⟩

/-- The number that bytes spell, the greatest first. -/
def beV : List UInt8 → Nat := List.foldl (fun a b => a * 256 + b.toNat) 0

theorem beV_snoc (l : List UInt8) (b : UInt8) : beV (l ++ [b]) = beV l * 256 + b.toNat := by simp [beV]
theorem beV_lt : ∀ (l : List UInt8), beV l.reverse < 256 ^ l.length
  | [] => by decide
  | b :: r => by
    have h := beV_lt r
    have hb := b.toNat_lt
    rw [List.reverse_cons, beV_snoc, List.length_cons, Nat.pow_succ]
    omega
theorem beV_lt' (l : List UInt8) : beV l < 256 ^ l.length := by
  have h := beV_lt l.reverse
  rw [List.reverse_reverse, List.length_reverse] at h
  exact h

/-- What TakeReal reads: none, or the bits. -/
def takeR (s : ByteArray) : Option Nat :=
  if s.size < 8 then none
  else if nanB (beV (s.data.toList.take 8)) ∧ beV (s.data.toList.take 8) ≠ nanW then none
  else some (beV (s.data.toList.take 8))

theorem or_byte (V : Nat) (b : UInt8) (hV : V < 72057594037927936) : bits .or .u64 ((V : Int) * 256) (b.toNat : Int) = ((V * 256 + b.toNat : Nat) : Int) := by
  have hb := b.toNat_lt
  have h := bits_join .u64 64 (by decide) wraps_u64 8 ((V : Int) * 256) (b.toNat : Int) (by omega) (by omega) (by omega) (by omega) (by omega) (by omega)
  rw [h]; omega

theorem beV_take (s : ByteArray) (k : Nat) (h : k < s.size) : beV (s.data.toList.take (k + 1)) = beV (s.data.toList.take k) * 256 + s[k].toNat := by
  rw [List.take_succ_eq_append_getElem (by simpa using h), beV_snoc]; rfl
theorem beV_small (l : List UInt8) (k : Nat) (hk : k ≤ 7) : beV (l.take k) < 72057594037927936 := by
  refine Nat.lt_of_lt_of_le (beV_lt' (l.take k)) ?_
  have h : (l.take k).length ≤ 7 := by simp; omega
  exact Nat.le_trans (Nat.pow_le_pow_right (by decide) h) (by decide)

set_option maxRecDepth 100000 in
set_option maxHeartbeats 1000000 in
theorem takeReal_any (s : ByteArray) (V : Value) (w : World) (hs : s.size ≤ maxLen) (hV : V = match takeR s with
      | none => .tuple #[.float .f64 0, .string ⟨#[]⟩, .int .i64 2]
      | some b => .tuple #[.float .f64 b, .string (s.extract 8 s.size), .int .i64 0]) :
    Calls Try.prog 10 #[.string s] w fun e w' => e = .returned V ∧ Below w.heap.size w w' := by
  have hrf := run_frombits
  unfold maxLen at hs
  by_cases h8 : s.size < 8
  · have HV : Hid (V = .tuple #[.float .f64 0, .string ⟨#[]⟩, .int .i64 2]) := by
      rw [hV]; unfold takeR; rw [if_pos h8]; rfl
    clear hV hrf
    go_enter Try.func10, Try.ntmps10
    go_wp2
    go_ret3
    exact ⟨congrArg Ending.returned HV.out.symm, Below.refl _ _⟩
  · obtain ⟨X, hX⟩ : ∃ X, beV (s.data.toList.take 8) = X := ⟨_, rfl⟩
    have hVc : (nanB X = true ∧ X ≠ nanW ∧ V = .tuple #[.float .f64 0, .string ⟨#[]⟩, .int .i64 2]) ∨ ((nanB X = false ∨ nanB X = true ∧ X = nanW) ∧ V = .tuple #[.float .f64 X, .string (s.extract 8 s.size), .int .i64 0]) := by
      rw [hV]; unfold takeR
      rw [if_neg h8, hX]
      by_cases hc : nanB X = true ∧ X ≠ nanW
      · rw [if_pos hc]; exact .inl ⟨hc.1, hc.2, rfl⟩
      · rw [if_neg hc]
        refine .inr ⟨?_, rfl⟩
        cases hn : nanB X
        · exact .inl rfl
        · exact .inr ⟨rfl, by
            by_cases he : X = nanW
            · exact he
            · exact absurd ⟨hn, he⟩ hc⟩
    clear hV
    have HX : Hid (beV (s.data.toList.take 8) = X) := hX
    have HVc : Hid _ := hVc
    clear hX hVc
    go_enter Try.func10, Try.ntmps10
    go_wp2
    go_loop [5, 10] (fun z c => ∃ k : Nat, k ≤ 8 ∧ c = .int .i64 k ∧ z = .int .u64 (beV (s.data.toList.take k) : Nat)) (fun _ c => 8 - (intOf c).toNat)
    case atStart => exact ⟨0, by omega, rfl, rfl⟩
    case round =>
      obtain ⟨k, hk, rfl, rfl⟩ := hrel
      by_cases hlt : k < 8
      · have hks : k < s.size := by omega
        have hst := beV_take s k hks
        have hsm := beV_small s.data.toList k (by omega)
        have hor := or_byte (beV (s.data.toList.take k)) s[k] hsm
        have HT : Hid (beV (s.data.toList.take (k + 1)) = beV (s.data.toList.take k) * 256 + s[k].toNat) := hst
        have HO : Hid (bits .or .u64 ((beV (s.data.toList.take k) : Int) * 256) (s[k].toNat : Int) = ((beV (s.data.toList.take k) * 256 + s[k].toNat : Nat) : Int)) := hor
        have hsb := s[k].toNat_lt
        clear hst hor HX HVc
        generalize beV (s.data.toList.take k) = A at *
        go_wp2
        go_round
        case rel => exact ⟨k + 1, by omega, by go_num, by rw [HT.out]; exact congrArg (Value.int .u64) HO.out⟩
        case measure => simp [intOf]; omega
      · obtain rfl : k = 8 := by omega
        rw [HX.out]
        clear HX
        have hne : X ≠ nanW → ((X : Int) != 9221120237041090561) = true := by
          intro h; unfold nanW at h; simp; omega
        have heq : X = nanW → ((X : Int) != 9221120237041090561) = false := by
          intro h; unfold nanW at h; simp; omega
        rcases HVc.out with ⟨c1, c2, c3⟩ | ⟨c1 | ⟨c1, c2⟩, c3⟩
        · have hc := hne c2
          have HV : Hid _ := c3
          unfold nanB at c1
          clear c2 c3 HVc hne heq
          go_wp2
          go_ret3
          exact ⟨congrArg Ending.returned HV.out.symm, Below.refl _ _⟩
        · have HV : Hid _ := c3
          unfold nanB at c1
          clear c3 HVc hne heq
          go_wp2
          refine wp_region_quiet_lit (by kernel_rfl) (by kernel_rfl) ?_
          repeat (first | go_big_quiet_step (fail) | quiet_step (fail))
          refine wpQuiet_nil ?_
          rintro _ ⟨nq, rfl⟩
          go_wp2
          go_ret3
          exact ⟨congrArg Ending.returned HV.out.symm, bel_drewN _ _⟩
        · have hc := heq c2
          have HV : Hid _ := c3
          unfold nanB at c1
          clear c2 c3 HVc hne heq
          go_wp2
          refine wp_region_quiet_lit (by kernel_rfl) (by kernel_rfl) ?_
          repeat (first | go_big_quiet_step (fail) | quiet_step (fail))
          refine wpQuiet_nil ?_
          rintro _ ⟨nq, rfl⟩
          go_wp2
          go_ret3
          exact ⟨congrArg Ending.returned HV.out.symm, bel_drewN _ _⟩

end Go.Proofs.Ytoppdclmahelmab
