/- Slices of numbers; the contracts of sum.Chunks and tabulariumref02.Chunks. -/
import Derived.Test.YtjohhlmgcjpjeaaSumRef
namespace Go.Proofs.Ytjohhlmgcjpjeaa
open Go.RowKit

/-- A slice of numbers that lies in memory: the numbers zs. -/
structure Ints (w : World) (k : IntKind) (a : Option Addr) (b off : Nat) (zs : List Int) : Prop where
  addr : 0 < zs.length → a = some ⟨b, off, none⟩
  cell : ∀ j (hj : j < zs.length), w.cell? ⟨b, off + j, none⟩ = some (.int k zs[j])

theorem Ints.lt {w : World} {k : IntKind} {a : Option Addr} {b off : Nat} {zs : List Int} (h : Ints w k a b off zs) (hp : 0 < zs.length) : b < w.heap.size :=
  World.block_lt_of_cell? _ _ (h.cell 0 hp)
theorem Ints.below {w w' : World} {k : IntKind} {a : Option Addr} {b off : Nat} {zs : List Int} (h : Ints w k a b off zs) (hb : Below w.heap.size w w') : Ints w' k a b off zs :=
  ⟨h.addr, fun j hj => (hb.cell (p := ⟨b, off + j, none⟩) (h.lt (by omega))).trans (h.cell j hj)⟩
theorem Ints.draw {w : World} {k : IntKind} {a : Option Addr} {b off : Nat} {zs : List Int} (h : Ints w k a b off zs) (n : Nat) : Ints (w.drewN n) k a b off zs := h.below (bel_drewN w n)

def intCells (k : IntKind) (zs : List Int) : List Value := zs.map (.int k)
theorem intCells_len (k : IntKind) (zs : List Int) : (intCells k zs).length = zs.length := by simp [intCells]
theorem intCells_set (k : IntKind) (zs : List Int) (j : Nat) (z : Int) : (intCells k zs).set j (.int k z) = intCells k (zs.set j z) := by simp [intCells, List.map_set]

theorem own_ints {w : World} {base : Nat} {e : TypeId} {v : Value} {n : Nat} {k : IntKind} {zs : List Int} (h : w.ownsRow base e 1 v n (intCells k zs)) :
    n = zs.length ∧ ∃ a cap b, v = .slice a zs.length cap ∧ Ints w k a b 0 zs ∧ (0 < zs.length → base ≤ b) := by
  have hlen := h.1
  rw [intCells_len] at hlen
  have hl : n = zs.length := by omega
  subst hl
  refine ⟨rfl, ?_⟩
  rcases h.2 with ⟨rfl, h0⟩ | ⟨g, cap, cur, rfl, hb, _⟩
  · refine ⟨none, 0, 0, by rw [h0], ⟨fun hp => by omega, fun j hj => by omega⟩, fun hp => by omega⟩
  · refine ⟨some ⟨g, 0, none⟩, cap, g, rfl, ⟨fun _ => rfl, fun j hj => ?_⟩, fun _ => hb⟩
    have := h.cells (g := g) rfl j (.int k zs[j]) (by simp [intCells, hj])
    rw [Addr.add_lit] at this
    exact this

/-- The first k of n numbers, and noughts. -/
def fillRow (f : Nat → Int) (n k : Nat) : List Int := (List.range n).map fun i => if i < k then f i else 0
theorem fillRow_len (f : Nat → Int) (n k : Nat) : (fillRow f n k).length = n := by simp [fillRow]
theorem fillRow_zero (f : Nat → Int) (n : Nat) : fillRow f n 0 = List.replicate n 0 := by
  apply List.ext_getElem <;> simp [fillRow]
theorem fillRow_all (f : Nat → Int) (n : Nat) : fillRow f n n = (List.range n).map f := by
  unfold fillRow
  apply List.map_congr_left
  intro i hi
  rw [if_pos (by simpa using hi)]
theorem fillRow_set (f : Nat → Int) (n k : Nat) : (fillRow f n k).set k (f k) = fillRow f n (k + 1) := by
  apply List.ext_getElem
  · simp [fillRow]
  · intro i h1 h2
    rw [List.getElem_set]
    simp only [fillRow, List.getElem_map, List.getElem_range]
    by_cases h : k = i
    · subst h; simp
    · rw [if_neg h]
      by_cases h3 : i < k
      · rw [if_pos h3, if_pos (by omega)]
      · rw [if_neg h3, if_neg (by omega)]
theorem madeInts (n : Nat) (k : IntKind) : (madeCells (Value.int k 0).cells (n * 1)).toList = intCells k (List.replicate n 0) := by
  rw [Nat.mul_one]
  show (madeCells #[Value.int k 0] n).toList = _
  rw [toList_madeCells_one]; simp [intCells]

theorem Try.infoU32 : (Try.prog.info? 26).map (fun i => (i.zero, i.size, i.bytes)) = some (some (.int .u32 0), 1, 4) := by kernel_rfl

/-- The sum of the chunk at place i. -/
def chunkSum (s : ByteArray) (i : Nat) : Int := sumZ (chunkS s i).data.toList
/-- The sums of all chunks. -/
def chunkZ (s : ByteArray) : List Int := (List.range ((s.size + 7) / 8)).map (chunkSum s)
theorem chunkZ_len (s : ByteArray) : (chunkZ s).length = (s.size + 7) / 8 := by simp [chunkZ]
theorem chunkZ_at (s : ByteArray) (i : Nat) (h : i < (chunkZ s).length) : (chunkZ s)[i] = chunkSum s i := by simp [chunkZ]
theorem chunkSum_nonneg (s : ByteArray) (i : Nat) : 0 ≤ chunkSum s i := sumZ_nonneg _
theorem chunkSum_lt (s : ByteArray) (i : Nat) : chunkSum s i < 4294967296 := sumZ_lt _
theorem chunkS_size (s : ByteArray) (i : Nat) : (chunkS s i).size ≤ 8 := by
  unfold chunkS; rw [ByteArray.size_extract]; omega

theorem sum_chunk (s : ByteArray) (i : Nat) (w : World) :
    Calls Try.prog 13 #[.string (chunkS s i)] w fun e w' => e = .returned (.int .u32 (chunkSum s i)) ∧ w' = w :=
  sum_any (chunkS s i) w (Nat.le_trans (chunkS_size s i) (by unfold maxLen; omega))

set_option maxRecDepth 100000 in
set_option maxHeartbeats 1000000 in
theorem chunks_any (s : ByteArray) (w : World) (hs : s.size ≤ 140737488355328) :
    Calls Try.prog 10 #[.string s] w fun e w' => ∃ g n, e = .returned (.slice (some ⟨g, 0, none⟩) n n) ∧ w'.ownsRow w.heap.size 26 1 (.slice (some ⟨g, 0, none⟩) n n) n (intCells .u32 (chunkZ s)) ∧ Below w.heap.size w w' := by
  obtain ⟨i0, hi, hz0, hz1, hz2⟩ := info_parts Try.infoU32
  obtain ⟨n, hn⟩ : ∃ n, (s.size + 7) / 8 = n := ⟨_, rfl⟩
  have hn44 : n ≤ 17592186044417 := by omega
  go_enter Try.func10, Try.ntmps10
  go_wp2_with fail
  refine (chunkCount_any s _ hs).mono ?_
  rintro e w0 ⟨rfl, rfl⟩
  rename World => w
  rw [hn]
  have HN : Hid _ := hn
  clear hn
  go_wp2_with (at_make; refine wpList_make_full _ rfl _ _ 22 rfl w.heap.size 26 i0 (.int .u32 0) 1 Try.underlying22 hi hz0 hz1 .i64 .i64 n n n rfl rfl rfl rfl (by rw [hz2]; omega) (by unfold maxLen; omega) (Nat.le_refl _) ?_; intro w1 hown0 hgrow0)
  have hb0 : Below w.heap.size w w1 := (Below.refl _ _).grown hgrow0 (Nat.le_refl _) (by simp)
  rw [madeInts] at hown0
  clear hgrow0
  go_loopw [10] (fun c wr => ∃ k : Nat, k ≤ n ∧ c = .int .i64 k ∧ wr.ownsRow w.heap.size 26 1 (.slice (some ⟨w.heap.size, 0, none⟩) n n) n (intCells .u32 (fillRow (chunkSum s) n k)) ∧ Below w.heap.size w wr) (fun c _ => n - (intOf c).toNat)
  case atStart => exact ⟨0, by omega, rfl, by rw [fillRow_zero]; exact hown0, hb0⟩
  case round =>
    obtain ⟨k, hk, rfl, hown, hbel⟩ := hrel
    by_cases hlt : k < n
    · have hfz := hown.frozenAt k
      have hcl : ∃ u, wr.cell? ⟨w.heap.size, k, none⟩ = some u := ⟨_, (hown.cellAt k (by omega)).trans (List.getElem?_eq_getElem (by rw [intCells_len, fillRow_len]; exact hlt))⟩
      obtain ⟨u, hcl⟩ := hcl
      obtain ⟨hst, hgr⟩ := hown.stored k (.int .u32 (chunkSum s k))
      rw [intCells_set, fillRow_set] at hst
      have hbel2 := hbel.grown hgr hbel.size (by simp)
      have hc0 := chunkSum_nonneg s k
      have hc1 := chunkSum_lt s k
      clear hown hbel hown0 hb0 hgr
      go_wp2_with (first
        | (go_at_call 22; refine (chunkAt_any s k _ hs (by have := HN.out; omega)).mono ?_; rintro e w' ⟨rfl, rfl⟩)
        | (go_at_call 13; refine (sum_chunk s k _).mono ?_; rintro e w' ⟨rfl, rfl⟩))
      go_roundw
      case rel => exact ⟨k + 1, by omega, by go_num, hst, hbel2⟩
      case measure => simp [intOf]; omega
    · obtain rfl : k = n := by omega
      rw [fillRow_all, ← HN.out] at hown
      have HO : Hid (wr.ownsRow w.heap.size 26 1 (.slice (some ⟨w.heap.size, 0, none⟩) k k) k (intCells .u32 (chunkZ s))) := by rw [← HN.out]; exact hown
      clear hown hown0 hb0
      go_wp2
      go_ret
      exact ⟨_, _, rfl, HO.out, hbel⟩

end Go.Proofs.Ytjohhlmgcjpjeaa
