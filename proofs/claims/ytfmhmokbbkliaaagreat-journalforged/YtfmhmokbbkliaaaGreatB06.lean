/- Part 6 of the proof: SumFn, SumText, SumRef. -/
import Derived.Test.YtfmhmokbbkliaaaGreatB02
import Derived.Test.YtfmhmokbbkliaaaGreatB04

/- The contracts of sum.shift, sum.Sum, sum.chunkCount and sum.chunkAt. -/
namespace Go.Proofs.YtfmhmokbbkliaaaGreat.Smm
open Go.RowKit Go.Proofs.YtfmhmokbbkliaaaGreat.Wir

theorem c1_odd {u : BitVec 32} (h : u.getLsbD 0 = true) : zV (c1 u) = bits .xor .u32 (zV u / 2) 3988292384 := by
  rw [half_zV, ← zV_poly, bits_xor_zV]; unfold c1; rw [if_pos h]
theorem c1_even {u : BitVec 32} (h : u.getLsbD 0 = false) : zV (c1 u) = zV u / 2 := by
  rw [half_zV]; unfold c1; rw [h]; rfl
theorem cN_next {k : Nat} (u : BitVec 32) (h : k < 8) : cN (8 - (k + 1)) (c1 u) = cN (8 - k) u := by
  have : 8 - k = (8 - (k + 1)) + 1 := by omega
  rw [this]; rfl

set_option maxRecDepth 100000 in
set_option maxHeartbeats 400000 in
theorem shift_any (x : Int) (v : BitVec 32) (w : World) (hx : x = zV v) :
    Calls Tryz.prog 188 #[.int .u32 x] w fun e w' => e = .returned (.int .u32 (zV (cN 8 v))) ∧ w' = w := by
  go_enter Tryz.func188, Tryz.ntmps188
  go_wp2
  go_loop [0, 4] (fun z c => ∃ (k : Nat) (u : BitVec 32), k ≤ 8 ∧ c = .int .i64 k ∧ z = .int .u32 (zV u) ∧ cN (8 - k) u = cN 8 v) (fun _ c => 8 - (intOf c).toNat)
  case atStart => exact ⟨0, v, by omega, rfl, by rw [hx], rfl⟩
  case round =>
    obtain ⟨k, u, hk, rfl, rfl, hE⟩ := hrel
    have h0 := zV_nonneg u
    have h1 := zV_lt u
    have E : Hid (cN (8 - k) u = cN 8 v) := hE
    clear hE hx
    by_cases hlt : k < 8
    · have E2 : Hid (cN (8 - (k + 1)) (c1 u) = cN 8 v) := (cN_next u hlt).trans E.out
      clear E
      have ha := bits_and1_zV u
      cases hb : u.getLsbD 0 with
      | true =>
        have hq : (bits .and .u32 (zV u) 1 == 1) = true := by rw [ha, hb]; rfl
        have E3 : Hid (zV (c1 u) = bits .xor .u32 (zV u / 2) 3988292384) := c1_odd hb
        clear ha
        generalize zV u = Z at *
        go_wp2
        go_round
        case rel => exact ⟨k + 1, c1 u, by omega, by go_num, by rw [E3.out], E2.out⟩
        case measure => simp [intOf]; omega
      | false =>
        have hq : (bits .and .u32 (zV u) 1 == 1) = false := by rw [ha, hb]; rfl
        have E3 : Hid (zV (c1 u) = zV u / 2) := c1_even hb
        clear ha
        generalize zV u = Z at *
        go_wp2
        go_round
        case rel => exact ⟨k + 1, c1 u, by omega, by go_num, by rw [E3.out], E2.out⟩
        case measure => simp [intOf]; omega
    · have hk8 : k = 8 := by omega
      subst hk8
      have E3 : Hid (u = cN 8 v) := E.out
      clear E
      go_wp2
      go_ret
      exact ⟨ret_int (congrArg zV E3.out), rfl⟩

theorem take_snoc (l : List UInt8) (k : Nat) (h : k < l.length) : l.take (k + 1) = l.take k ++ [l[k]] := List.take_succ_eq_append_getElem h

theorem crc_next (s : ByteArray) (k : Nat) (h : k < s.size) : crcFrom (BitVec.allOnes 32) (s.data.toList.take (k + 1)) = cN 8 (crcFrom (BitVec.allOnes 32) (s.data.toList.take k) ^^^ byteV s[k]) := by
  rw [take_snoc _ _ (by rw [Array.length_toList]; exact h), crcFrom_snoc]; rfl
theorem xor_byte (u : BitVec 32) (b : UInt8) : bits .xor .u32 (zV u) ((b.toNat : Int) % 4294967296) = zV (u ^^^ byteV b) := by
  have := UInt8.toNat_lt b
  rw [← bits_xor_zV, zV_byte, Int.emod_eq_of_lt (by omega) (by omega)]
theorem crc_all (s : ByteArray) : crcFrom (BitVec.allOnes 32) (s.data.toList.take s.size) = crcFrom (BitVec.allOnes 32) s.data.toList := by
  rw [List.take_of_length_le]; rw [Array.length_toList]; exact Nat.le_refl _

set_option maxRecDepth 100000 in
set_option maxHeartbeats 400000 in
theorem sum_any (s : ByteArray) (w : World) (hs : s.size ≤ maxLen) :
    Calls Tryz.prog 186 #[.string s] w fun e w' => e = .returned (.int .u32 (sumZ s.data.toList)) ∧ w' = w := by
  have hmx : s.size ≤ 9223372036854775807 := by unfold maxLen at hs; omega
  go_enter Tryz.func186, Tryz.ntmps186
  go_wp2
  go_loop [3, 7] (fun z c => ∃ (k : Nat) (u : BitVec 32), k ≤ s.size ∧ c = .int .i64 k ∧ z = .int .u32 (zV u) ∧ crcFrom (BitVec.allOnes 32) (s.data.toList.take k) = u) (fun _ c => s.size - (intOf c).toNat)
  case atStart => exact ⟨0, _, by omega, rfl, rfl, rfl⟩
  case round =>
    obtain ⟨k, u, hk, rfl, rfl, hu⟩ := hrel
    have h0 := zV_nonneg u
    have h1 := zV_lt u
    by_cases hlt : k < s.size
    · have E : Hid (crcFrom (BitVec.allOnes 32) (s.data.toList.take (k + 1)) = cN 8 (u ^^^ byteV s[k])) := by rw [← hu]; exact crc_next s k hlt
      clear hu
      go_wp2_with fail
      refine (shift_any _ (u ^^^ byteV s[k]) _ (xor_byte u s[k])).mono ?_
      rintro e w' ⟨rfl, rfl⟩
      go_wp2
      go_round
      case rel => exact ⟨k + 1, _, by omega, by go_num, rfl, E.out⟩
      case measure => simp [intOf]; omega
    · have hk8 : k = s.size := by omega
      subst hk8
      have E : Hid (zV (~~~ u) = sumZ s.data.toList) := by rw [← hu, crc_all]; rfl
      have hn := not_bits u
      clear hu
      generalize zV u = Z at *
      go_wp2
      go_ret
      exact ⟨ret_int E.out, rfl⟩

theorem nat8_div (n : Nat) : ((n : Int) + 8 - 1) / 8 = (((n + 7) / 8 : Nat) : Int) := by omega

theorem ret_bytes {a b : ByteArray} (h : a = b) : Ending.returned (.string a) = .returned (.string b) := by rw [h]
/-- The chunk at place i. -/
def chunkS (s : ByteArray) (i : Nat) : ByteArray := s.extract (i * 8) (min (i * 8 + 8) s.size)

end Go.Proofs.YtfmhmokbbkliaaaGreat.Smm

/- The contracts of sum.sumText and tabulariumref02.Four: four bytes, the greatest first. -/
namespace Go.Proofs.YtfmhmokbbkliaaaGreat.Smm
open Go.RowKit Go.Proofs.YtfmhmokbbkliaaaGreat.Wir

/-- The i-th of the four bytes of z, the greatest first. -/
def q4At (z i : Nat) : UInt8 := (z / 2 ^ (8 * (3 - i))).toUInt8
def q4Row (z k : Nat) : List UInt8 := (List.range 4).map fun i => if i < k then q4At z i else 0
def q4B (z : Nat) : List UInt8 := (List.range 4).map (q4At z)

theorem q4Row_zero (z : Nat) : q4Row z 0 = List.replicate 4 0 := by simp [q4Row]; rfl
theorem q4Row_all (z : Nat) : q4Row z 4 = q4B z := by
  unfold q4Row q4B
  apply List.map_congr_left
  intro i hi
  rw [if_pos (by simpa using hi)]
theorem q4Row_set (z k : Nat) : (q4Row z k).set k (q4At z k) = q4Row z (k + 1) := by
  apply List.ext_getElem
  · simp [q4Row]
  · intro i h1 h2
    rw [List.getElem_set]
    simp only [q4Row, List.getElem_map, List.getElem_range]
    by_cases h : k = i
    · subst h; simp
    · rw [if_neg h]
      by_cases h3 : i < k
      · rw [if_pos h3, if_pos (by omega)]
      · rw [if_neg h3, if_neg (by omega)]
theorem byteCells_set4 (l : List UInt8) (k : Nat) (b : UInt8) : (Lib.byteCells l).set k (.int .u8 b.toNat) = Lib.byteCells (l.set k b) := by
  simp [Lib.byteCells, List.map_set]
theorem q4At_int (z k : Nat) : ((z : Int) / 2 ^ (8 * (3 - k))) % 256 = ((q4At z k).toNat : Int) := by
  unfold q4At
  have e : ((z : Int) / 2 ^ (8 * (3 - k))) = ((z / 2 ^ (8 * (3 - k)) : Nat) : Int) := by
    rw [Int.natCast_ediv, Int.natCast_pow]; rfl
  rw [e]
  generalize z / 2 ^ (8 * (3 - k)) = q
  simp [Nat.toUInt8, UInt8.toNat_ofNat']
theorem made4 : (madeCells (Value.int IntKind.u8 0).cells (4 * 1)).toList = Lib.byteCells (List.replicate 4 0) := by
  show (madeCells #[Value.int IntKind.u8 0] 4).toList = _
  rw [toList_madeCells_one]; rfl

/-- The sum, as a number. -/
def sumN (l : List UInt8) : Nat := (crc l).toNat
theorem sumN_lt (l : List UInt8) : sumN l < 4294967296 := (crc l).isLt
theorem sumZ_nat (l : List UInt8) : sumZ l = (sumN l : Int) := rfl
/-- The four bytes of the sum. -/
def sum4 (s : ByteArray) : ByteArray := ⟨(q4B (sumN s.data.toList)).toArray⟩
theorem sum4_size (s : ByteArray) : (sum4 s).size = 4 := by
  show (q4B _).toArray.size = 4
  simp [q4B]

theorem sum_nat (s : ByteArray) (N : Nat) (w : World) (hs : s.size ≤ maxLen) (hN : sumN s.data.toList = N) :
    Calls Tryz.prog 186 #[.string s] w fun e w' => e = .returned (.int .u32 (N : Int)) ∧ w' = w := by
  subst hN; exact sum_any s w hs

set_option maxRecDepth 100000 in
set_option maxHeartbeats 1000000 in
theorem sumText_any (s : ByteArray) (w : World) (hs : s.size ≤ maxLen) :
    Calls Tryz.prog 179 #[.string s] w fun e w' => e = .returned (.string (sum4 s)) ∧ Below w.heap.size w w' := by
  obtain ⟨i0, hi, hz0, hz1, hz2⟩ := info_parts Tryz.infoByte
  have hZl := sumN_lt s.data.toList
  obtain ⟨Z, hZ⟩ : ∃ Z, sumN s.data.toList = Z := ⟨_, rfl⟩
  have hV : sum4 s = ⟨(q4B Z).toArray⟩ := by unfold sum4; rw [hZ]
  rw [hV]
  rw [hZ] at hZl
  have HZ : Hid _ := hZ
  clear hV hZ
  go_enter Tryz.func179, Tryz.ntmps179
  go_wp2_with fail
  refine (sum_nat s Z _ hs HZ.out).mono ?_
  rintro e w0 ⟨rfl, rfl⟩
  rename World => w
  go_wp2_with (at_make; refine wpList_make_full _ rfl _ _ 113 rfl w.heap.size 5 i0 (.int .u8 0) 1 Tryz.underlying113 hi hz0 hz1 .i64 .i64 4 4 4 rfl rfl rfl rfl (by omega) (by decide) (Nat.le_refl _) ?_; intro w1 hown0 hgrow0)
  have hb0 : Below w.heap.size w w1 := (Below.refl _ _).grown hgrow0 (Nat.le_refl _) (by simp)
  rw [made4] at hown0
  clear hgrow0 HZ
  go_loopw [11] (fun c wr => ∃ k : Nat, k ≤ 4 ∧ c = .int .i64 k ∧ wr.ownsRow w.heap.size 5 1 (.slice (some ⟨w.heap.size, 0, none⟩) 4 4) 4 (Lib.byteCells (q4Row Z k)) ∧ Below w.heap.size w wr) (fun c _ => 4 - (intOf c).toNat)
  case atStart => exact ⟨0, by omega, rfl, by rw [q4Row_zero]; exact hown0, hb0⟩
  case round =>
    obtain ⟨k, hk, rfl, hown, hbel⟩ := hrel
    by_cases hlt : k < 4
    · have hfz := hown.frozenAt k
      have hcl : ∃ u, wr.cell? ⟨w.heap.size, k, none⟩ = some u := ⟨_, (hown.cellAt k (by omega)).trans (List.getElem?_eq_getElem (by simp [Lib.byteCells, q4Row]; exact hlt))⟩
      obtain ⟨u, hcl⟩ := hcl
      obtain ⟨hst, hgr⟩ := hown.stored k (.int .u8 ((q4At Z k).toNat : Int))
      rw [byteCells_set4, q4Row_set] at hst
      have hbel2 := hbel.grown hgr hbel.size (by simp)
      have hat := q4At_int Z k
      clear hown hbel hown0 hb0 hgr
      go_wp2
      go_roundw
      case rel => exact ⟨k + 1, by omega, by go_num, hst, hbel2⟩
      case measure => simp [intOf]; omega
    · obtain rfl : k = 4 := by omega
      rw [q4Row_all] at hown
      obtain ⟨g, cap, hv, hn8, hcells⟩ := own_cells hown (by omega)
      have hl8 : (q4B Z).length = 4 := by simp [q4B]
      simp only [Value.slice.injEq, Option.some.injEq, Addr.mk.injEq, and_true] at hv
      obtain ⟨rfl, hn9, rfl⟩ := hv
      have hcv := run_convert_bytes_back (P := Tryz.prog) wr 113 9 5 ⟨w.heap.size, 0, none⟩ 4 (q4B Z) Tryz.underlying113 Tryz.underlying5 Tryz.underlying9 hcells
      rw [hl8] at hcv
      clear hown hcells hown0 hb0 hl8 hn8 hn9
      go_wp2
      go_ret
      exact ⟨rfl, hbel⟩

end Go.Proofs.YtfmhmokbbkliaaaGreat.Smm

/- The contracts of tabulariumref02.Sum and tabulariumref02.Four. -/
namespace Go.Proofs.YtfmhmokbbkliaaaGreat.Smm
open Go.RowKit Go.Proofs.YtfmhmokbbkliaaaGreat.Wir

set_option maxRecDepth 100000 in
set_option maxHeartbeats 400000 in
theorem refSum_any (s : ByteArray) (w : World) (hs : s.size ≤ maxLen) :
    Calls Tryz.prog 105 #[.string s] w fun e w' => e = .returned (.int .u32 (sumZ s.data.toList)) ∧ w' = w := by
  have hmx : s.size ≤ 9223372036854775807 := by unfold maxLen at hs; omega
  go_enter Tryz.func105, Tryz.ntmps105
  go_wp2
  go_loop [3, 4] (fun z c => ∃ (k : Nat) (u : BitVec 32), k ≤ s.size ∧ c = .int .i64 k ∧ z = .int .u32 (zV u) ∧ crcFrom (BitVec.allOnes 32) (s.data.toList.take k) = u) (fun _ c => s.size - (intOf c).toNat)
  case atStart => exact ⟨0, _, by omega, rfl, rfl, rfl⟩
  case round =>
    obtain ⟨k, u, hk, rfl, rfl, hu⟩ := hrel
    have h0 := zV_nonneg u
    have h1 := zV_lt u
    by_cases hlt : k < s.size
    · have E : Hid (crcFrom (BitVec.allOnes 32) (s.data.toList.take (k + 1)) = cN 8 (u ^^^ byteV s[k])) := by rw [← hu]; exact crc_next s k hlt
      have X : Hid (bits .xor .u32 (zV u) ((s[k].toNat : Int) % 4294967296) = zV (u ^^^ byteV s[k])) := xor_byte u s[k]
      clear hu
      generalize u ^^^ byteV s[k] = v at *
      go_wp2
      go_loop [3, 5] (fun z c => ∃ (j : Nat) (x : BitVec 32), j ≤ 8 ∧ c = .int .i64 j ∧ z = .int .u32 (zV x) ∧ cN (8 - j) x = cN 8 v) (fun _ c => 8 - (intOf c).toNat)
      case atStart => exact ⟨0, v, by omega, rfl, by rw [X.out], rfl⟩
      case round =>
        obtain ⟨j, x, hj, rfl, rfl, hE⟩ := hrel
        have h2 := zV_nonneg x
        have h3 := zV_lt x
        have E1 : Hid (cN (8 - j) x = cN 8 v) := hE
        clear hE
        by_cases hlj : j < 8
        · have E2 : Hid (cN (8 - (j + 1)) (c1 x) = cN 8 v) := (cN_next x hlj).trans E1.out
          clear E1
          have ha := bit0_mod x
          cases hb : x.getLsbD 0 with
          | true =>
            have hq : zV x % (2 : Int) = 1 := by rw [hb] at ha; simpa using ha.symm
            have E3 : Hid (zV (c1 x) = bits .xor .u32 (zV x / 2) 3988292384) := c1_odd hb
            clear ha X h0 h1
            generalize zV x = Z at *
            go_wp2
            go_round
            case rel => exact ⟨j + 1, c1 x, by omega, by go_num, by rw [E3.out], E2.out⟩
            case measure => simp [intOf]; omega
          | false =>
            have hq : ¬ zV x % (2 : Int) = 1 := by rw [hb] at ha; simpa using ha.symm
            have E3 : Hid (zV (c1 x) = zV x / 2) := c1_even hb
            clear ha X h0 h1
            generalize zV x = Z at *
            go_wp2
            go_round
            case rel => exact ⟨j + 1, c1 x, by omega, by go_num, by rw [E3.out], E2.out⟩
            case measure => simp [intOf]; omega
        · have hk8 : j = 8 := by omega
          subst hk8
          have E3 : Hid (crcFrom (BitVec.allOnes 32) (s.data.toList.take (k + 1)) = x) := by rw [E.out]; exact E1.out.symm
          clear E1 E X
          go_wp2
          go_round
          case rel => exact ⟨k + 1, _, by omega, by go_num, rfl, E3.out⟩
          case measure => simp [intOf]; omega
    · have hk8 : k = s.size := by omega
      subst hk8
      have E : Hid (zV (~~~ u) = sumZ s.data.toList) := by rw [← hu, crc_all]; rfl
      have hn := not_bits u
      clear hu
      generalize zV u = Z at *
      go_wp2
      go_ret
      exact ⟨ret_int E.out, rfl⟩

set_option maxRecDepth 100000 in
set_option maxHeartbeats 1000000 in
theorem four_any (N : Nat) (w : World) (hN : N < 4294967296) :
    Calls Tryz.prog 104 #[.int .u32 (N : Int)] w fun e w' => e = .returned (.string ⟨(q4B N).toArray⟩) ∧ Below w.heap.size w w' := by
  have hc : ∀ j (hj : j < (q4B N).length), (w.alloc (Obj.cells #[.int .u8 ((N : Int) / 16777216), .int .u8 ((N : Int) / 65536 % 256), .int .u8 ((N : Int) / 256 % 256), .int .u8 ((N : Int) % 256)] 5)).cell? ((⟨w.heap.size, 0, none⟩ : Addr).add j) = some (.int .u8 ((q4B N)[j].toNat : Int)) := by
    intro j hj
    have hl : (q4B N).length = 4 := by simp [q4B]
    rw [Addr.add_lit, Nat.zero_add, World.cell?_alloc_new]
    have hg : (q4B N)[j] = q4At N j := by simp [q4B]
    rw [hg, ← q4At_int]
    match j, (by omega : j < 4) with
    | 0, _ => 
      have : (N : Int) / 2 ^ (8 * (3 - 0)) % 256 = (N : Int) / 16777216 := by
        show (N : Int) / 16777216 % 256 = _
        omega
      rw [this]; rfl
    | 1, _ => rfl
    | 2, _ => rfl
    | 3, _ =>
      have : (N : Int) / 2 ^ (8 * (3 - 3)) % 256 = (N : Int) % 256 := by
        show (N : Int) / 1 % 256 = _
        omega
      rw [this]; rfl
  have hcv := run_convert_bytes_back (P := Tryz.prog) _ 113 9 5 ⟨w.heap.size, 0, none⟩ 4 (q4B N) Tryz.underlying113 Tryz.underlying5 Tryz.underlying9 hc
  have hl : (q4B N).length = 4 := by simp [q4B]
  rw [hl] at hcv
  have bel : Below w.heap.size w (w.alloc (Obj.cells #[.int .u8 ((N : Int) / 16777216), .int .u8 ((N : Int) / 65536 % 256), .int .u8 ((N : Int) / 256 % 256), .int .u8 ((N : Int) % 256)] 5)) := (Below.refl _ _).alloc (Nat.le_refl _) _
  clear hc hl
  go_enter Tryz.func104, Tryz.ntmps104
  go_wp2
  go_ret
  exact ⟨rfl, bel⟩

theorem refSum_nat (s : ByteArray) (N : Nat) (w : World) (hs : s.size ≤ maxLen) (hN : sumN s.data.toList = N) :
    Calls Tryz.prog 105 #[.string s] w fun e w' => e = .returned (.int .u32 (N : Int)) ∧ w' = w := by
  subst hN; exact refSum_any s w hs

end Go.Proofs.YtfmhmokbbkliaaaGreat.Smm
