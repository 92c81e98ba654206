/- The contracts of sum.sumText and tabulariumref02.Four: four bytes, the greatest first. -/
import Derived.Test.YtokldcifhjkmnaaSumFn
namespace Go.Proofs.Ytokldcifhjkmnaa.Smm
open Go.RowKit Go.Proofs.Ytokldcifhjkmnaa.Wir

/-- The i-th of the four bytes of z, the greatest first. -/
def q4At (z i : Nat) : UInt8 := (z / 2 ^ (8 * (3 - i))).toUInt8
def q4Row (z k : Nat) : List UInt8 := (List.range 4).map fun i => if i < k then q4At z i else 0
def q4B (z : Nat) : List UInt8 := (List.range 4).map (q4At z)

theorem q4Row_zero (z : Nat) : q4Row z 0 = List.replicate 4 0 := by simp [q4Row]; rfl
theorem q4Row_all (z : Nat) : q4Row z 4 = q4B z := by
  unfold q4Row q4B
  apply List.map_congr_left
  intro i hi
  rw [if_pos (by simpa using hi)]
theorem q4Row_set (z k : Nat) : (q4Row z k).set k (q4At z k) = q4Row z (k + 1) := by
  apply List.ext_getElem
  · simp [q4Row]
  · intro i h1 h2
    rw [List.getElem_set]
    simp only [q4Row, List.getElem_map, List.getElem_range]
    by_cases h : k = i
    · subst h; simp
    · rw [if_neg h]
      by_cases h3 : i < k
      · rw [if_pos h3, if_pos (by omega)]
      · rw [if_neg h3, if_neg (by omega)]
theorem byteCells_set4 (l : List UInt8) (k : Nat) (b : UInt8) : (Lib.byteCells l).set k (.int .u8 b.toNat) = Lib.byteCells (l.set k b) := by
  simp [Lib.byteCells, List.map_set]
theorem q4At_int (z k : Nat) : ((z : Int) / 2 ^ (8 * (3 - k))) % 256 = ((q4At z k).toNat : Int) := by
  unfold q4At
  have e : ((z : Int) / 2 ^ (8 * (3 - k))) = ((z / 2 ^ (8 * (3 - k)) : Nat) : Int) := by
    rw [Int.natCast_ediv, Int.natCast_pow]; rfl
  rw [e]
  generalize z / 2 ^ (8 * (3 - k)) = q
  simp [Nat.toUInt8, UInt8.toNat_ofNat']
theorem made4 : (madeCells (Value.int IntKind.u8 0).cells (4 * 1)).toList = Lib.byteCells (List.replicate 4 0) := by
  show (madeCells #[Value.int IntKind.u8 0] 4).toList = _
  rw [toList_madeCells_one]; rfl

/-- The sum, as a number. -/
def sumN (l : List UInt8) : Nat := (crc l).toNat
theorem sumN_lt (l : List UInt8) : sumN l < 4294967296 := (crc l).isLt
theorem sumZ_nat (l : List UInt8) : sumZ l = (sumN l : Int) := rfl
/-- The four bytes of the sum. -/
def sum4 (s : ByteArray) : ByteArray := ⟨(q4B (sumN s.data.toList)).toArray⟩
theorem sum4_size (s : ByteArray) : (sum4 s).size = 4 := by
  show (q4B _).toArray.size = 4
  simp [q4B]

theorem sum_nat (s : ByteArray) (N : Nat) (w : World) (hs : s.size ≤ maxLen) (hN : sumN s.data.toList = N) :
    Calls Try.prog 82 #[.string s] w fun e w' => e = .returned (.int .u32 (N : Int)) ∧ w' = w := by
  subst hN; exact sum_any s w hs

set_option maxRecDepth 100000 in
set_option maxHeartbeats 1000000 in
theorem sumText_any (s : ByteArray) (w : World) (hs : s.size ≤ maxLen) :
    Calls Try.prog 75 #[.string s] w fun e w' => e = .returned (.string (sum4 s)) ∧ Below w.heap.size w w' := by
  obtain ⟨i0, hi, hz0, hz1, hz2⟩ := info_parts Try.infoByte
  have hZl := sumN_lt s.data.toList
  obtain ⟨Z, hZ⟩ : ∃ Z, sumN s.data.toList = Z := ⟨_, rfl⟩
  have hV : sum4 s = ⟨(q4B Z).toArray⟩ := by unfold sum4; rw [hZ]
  rw [hV]
  rw [hZ] at hZl
  have HZ : Hid _ := hZ
  clear hV hZ
  go_enter Try.func75, Try.ntmps75
  go_wp2_with fail
  refine (sum_nat s Z _ hs HZ.out).mono ?_
  rintro e w0 ⟨rfl, rfl⟩
  rename World => w
  go_wp2_with (at_make; refine wpList_make_full _ rfl _ _ 57 rfl w.heap.size 5 i0 (.int .u8 0) 1 Try.underlying57 hi hz0 hz1 .i64 .i64 4 4 4 rfl rfl rfl rfl (by omega) (by decide) (Nat.le_refl _) ?_; intro w1 hown0 hgrow0)
  have hb0 : Below w.heap.size w w1 := (Below.refl _ _).grown hgrow0 (Nat.le_refl _) (by simp)
  rw [made4] at hown0
  clear hgrow0 HZ
  go_loopw [11] (fun c wr => ∃ k : Nat, k ≤ 4 ∧ c = .int .i64 k ∧ wr.ownsRow w.heap.size 5 1 (.slice (some ⟨w.heap.size, 0, none⟩) 4 4) 4 (Lib.byteCells (q4Row Z k)) ∧ Below w.heap.size w wr) (fun c _ => 4 - (intOf c).toNat)
  case atStart => exact ⟨0, by omega, rfl, by rw [q4Row_zero]; exact hown0, hb0⟩
  case round =>
    obtain ⟨k, hk, rfl, hown, hbel⟩ := hrel
    by_cases hlt : k < 4
    · have hfz := hown.frozenAt k
      have hcl : ∃ u, wr.cell? ⟨w.heap.size, k, none⟩ = some u := ⟨_, (hown.cellAt k (by omega)).trans (List.getElem?_eq_getElem (by simp [Lib.byteCells, q4Row]; exact hlt))⟩
      obtain ⟨u, hcl⟩ := hcl
      obtain ⟨hst, hgr⟩ := hown.stored k (.int .u8 ((q4At Z k).toNat : Int))
      rw [byteCells_set4, q4Row_set] at hst
      have hbel2 := hbel.grown hgr hbel.size (by simp)
      have hat := q4At_int Z k
      clear hown hbel hown0 hb0 hgr
      go_wp2
      go_roundw
      case rel => exact ⟨k + 1, by omega, by go_num, hst, hbel2⟩
      case measure => simp [intOf]; omega
    · obtain rfl : k = 4 := by omega
      rw [q4Row_all] at hown
      obtain ⟨g, cap, hv, hn8, hcells⟩ := own_cells hown (by omega)
      have hl8 : (q4B Z).length = 4 := by simp [q4B]
      simp only [Value.slice.injEq, Option.some.injEq, Addr.mk.injEq, and_true] at hv
      obtain ⟨rfl, hn9, rfl⟩ := hv
      have hcv := run_convert_bytes_back (P := Try.prog) wr 57 9 5 ⟨w.heap.size, 0, none⟩ 4 (q4B Z) Try.underlying57 Try.underlying5 Try.underlying9 hcells
      rw [hl8] at hcv
      clear hown hcells hown0 hb0 hl8 hn8 hn9
      go_wp2
      go_ret
      exact ⟨rfl, hbel⟩

end Go.Proofs.Ytokldcifhjkmnaa.Smm
