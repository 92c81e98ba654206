/- The contract of wire.Join. -/
import Derived.Test.YtoppdclmahelmabWireText
import Derived.Test.YtoppdclmahelmabWireRow
namespace Go.Proofs.Ytoppdclmahelmab
open Go.RowKit

/-- A slice of strings that lies in memory: the strings ss. -/
structure Strs (w : World) (a : Option Addr) (b off : Nat) (ss : List ByteArray) : Prop where
  addr : 0 < ss.length → a = some ⟨b, off, none⟩
  cell : ∀ j (hj : j < ss.length), w.cell? ⟨b, off + j, none⟩ = some (.string ss[j])
  small : ∀ s ∈ ss, s.size ≤ maxLen
  len : ss.length ≤ maxLen

theorem Strs.lt {w : World} {a : Option Addr} {b off : Nat} {ss : List ByteArray} (h : Strs w a b off ss) (hp : 0 < ss.length) : b < w.heap.size :=
  World.block_lt_of_cell? _ _ (h.cell 0 hp)
theorem Strs.below {w w' : World} {a : Option Addr} {b off : Nat} {ss : List ByteArray} (h : Strs w a b off ss) (hb : Below w.heap.size w w') : Strs w' a b off ss :=
  ⟨h.addr, fun j hj => (hb.cell (p := ⟨b, off + j, none⟩) (h.lt (by omega))).trans (h.cell j hj), h.small, h.len⟩

/-- The bytes of some texts, one behind the other. -/
def textsB (ss : List ByteArray) : List UInt8 := (ss.map fun s => (textB s).data.toList).flatten
/-- The bytes of a list. -/
def joinB (ss : List ByteArray) : List UInt8 := numB ss.length ++ textsB ss
/-- May it be written? -/
def joinOk (ss : List ByteArray) : Bool := decide (ss.length ≤ 1000 ∧ ∀ s ∈ ss, s.size ≤ 4000)

theorem joinOk_iff (ss : List ByteArray) : joinOk ss = true ↔ ss.length ≤ 1000 ∧ ∀ s ∈ ss, s.size ≤ 4000 := by simp [joinOk]

theorem textB_data (s : ByteArray) : (textB s).data.toList = numB s.size ++ s.data.toList := by
  simp [textB, ByteArray.data_append]

theorem textB_len (s : ByteArray) (h : s.size ≤ 4000) : (textB s).data.toList.length ≤ 4010 := by
  rw [textB_data, List.length_append]
  have h1 := numB_len (n := (s.size : Int)) (by omega) (by omega)
  have h2 : s.data.toList.length = s.size := Array.length_toList
  omega

theorem textsB_snoc (ss : List ByteArray) (s : ByteArray) : textsB (ss ++ [s]) = textsB ss ++ (textB s).data.toList := by simp [textsB]
theorem textsB_len : ∀ (ss : List ByteArray), (∀ s ∈ ss, s.size ≤ 4000) → (textsB ss).length ≤ 4010 * ss.length
  | [], _ => by simp [textsB]
  | s :: r, h => by
    have h1 := textsB_len r (fun x hx => h x (List.mem_cons_of_mem _ hx))
    have h2 := textB_len s (h s (List.mem_cons_self ..))
    have e : textsB (s :: r) = (textB s).data.toList ++ textsB r := by simp [textsB]
    rw [e, List.length_append, List.length_cons]
    omega

theorem take_next (ss : List ByteArray) (k : Nat) (h : k < ss.length) : ss.take (k + 1) = ss.take k ++ [ss[k]] := List.take_succ_eq_append_getElem h

theorem run_bytes_row {P : Program} (w : World) (src dst e : TypeId) (s : ByteArray) (hs : P.underlying src = some .string) (hd : P.underlying dst = some (.slice e)) (he : P.underlying e = some (.int .u8)) (hm : s.size ≤ maxLen) (base : Nat) (hb : base ≤ w.heap.size) :
    ∃ v w', (convert src dst (.string s)).run P w = .ok v w' ∧ ByteRow base w' v s.data.toList ∧ Below base w w' :=
  ⟨_, _, run_bytes_of_string w src dst e s hs hd he, ByteRow.made w e s hm base hb, ((Below.refl base w).drew).alloc hb _⟩

/-- What Join answers. -/
def joinV (ss : List ByteArray) : Value := if joinOk ss then .tuple #[.string ⟨(joinB ss).toArray⟩, .int .i64 0] else .tuple #[.string ⟨#[]⟩, .int .i64 4]
theorem joinV_yes {ss : List ByteArray} (h : joinOk ss = true) : joinV ss = .tuple #[.string ⟨(joinB ss).toArray⟩, .int .i64 0] := by unfold joinV; rw [if_pos h]
theorem joinV_no {ss : List ByteArray} (h : joinOk ss = false) : joinV ss = .tuple #[.string ⟨#[]⟩, .int .i64 4] := by unfold joinV; rw [h]; rfl

set_option maxRecDepth 100000 in
set_option maxHeartbeats 2000000 in
theorem join_any (a : Option Addr) (b off cap : Nat) (ss : List ByteArray) (w : World) (hS : Strs w a b off ss) :
    Calls Try.prog 11 #[.slice a ss.length cap] w fun e w' => e = .returned (joinV ss) ∧ Below w.heap.size w w' := by
  obtain ⟨i0, hi, hz0, hz1, hz2⟩ := info_parts Try.infoByte
  by_cases hlen : ss.length ≤ 1000
  · have hl10 := numB_len (n := (ss.length : Int)) (by omega) (by omega)
    go_enter Try.func11, Try.ntmps11
    go_wp2_with fail
    refine (num_any (ss.length : Int) _ (by omega) (by omega)).mono ?_
    rintro e w1 ⟨rfl, b1⟩
    have hb1 := b1.size
    obtain ⟨v0, w2, hcv, hrow0, hbel0⟩ := run_bytes_row (P := Try.prog) w1 9 41 5 ⟨(numB ss.length).toArray⟩ Try.underlying9 Try.underlying41 Try.underlying5 (by rw [mk_size]; unfold maxLen; omega) w.heap.size hb1
    have bb := b1.trans hbel0
    clear b1 hbel0
    go_wp2_with fail
    clear hcv
    go_loopw [4, 18] (fun v c wr => ∃ k : Nat, k ≤ ss.length ∧ c = .int .i64 k ∧ (∀ s ∈ ss.take k, s.size ≤ 4000) ∧ ByteRow w.heap.size wr v (numB ss.length ++ textsB (ss.take k)) ∧ Below w.heap.size w wr) (fun _ c _ => ss.length - (intOf c).toNat)
    case atStart => exact ⟨0, by omega, rfl, by simp, by simpa [textsB] using hrow0, bb⟩
    case round =>
      obtain ⟨k, hk, rfl, hall, hrow, hbel⟩ := hrel
      have HA : Hid (∀ s ∈ ss.take k, s.size ≤ 4000) := hall
      have hsz := hbel.size
      clear hall hrow0 bb
      by_cases hlt : k < ss.length
      · obtain rfl := hS.addr (by omega)
        have hbl : b < w.heap.size := hS.lt (by omega)
        have hcell : wr.cell? ⟨b, off + k, none⟩ = some (.string ss[k]) := (hbel.cell (p := ⟨b, off + k, none⟩) hbl).trans (hS.cell k hlt)
        have hmem : ss[k] ∈ ss := List.getElem_mem hlt
        have htn := take_next ss k hlt
        have HT : Hid (ss.take (k + 1) = ss.take k ++ [ss[k]]) := htn
        have hL := textsB_len (ss.take k) HA.out
        have hL2 : (ss.take k).length ≤ 1000 := by rw [List.length_take]; omega
        clear htn
        by_cases h4 : ss[k].size ≤ 4000
        · have hT4 := textB_len ss[k] h4
          have hts : (textB ss[k]).data.toList.length = (textB ss[k]).size := Array.length_toList
          have hbnd : (numB ss.length ++ textsB (ss.take k)).length + (textB ss[k]).size ≤ 140737488355328 := by
            rw [List.length_append]; omega
          have HA2 : Hid (∀ s ∈ ss.take (k + 1), s.size ≤ 4000) := by
            intro s hs
            rw [HT.out, List.mem_append] at hs
            rcases hs with hs | hs
            · exact HA.out s hs
            · simp at hs; subst hs; exact h4
          have HR : Hid (numB ss.length ++ textsB (ss.take (k + 1)) = (numB ss.length ++ textsB (ss.take k)) ++ (textB ss[k]).data.toList) := by
            show (_ : List UInt8) = _
            rw [HT.out, textsB_snoc, List.append_assoc]
          clear hL hL2 hT4 hts HA HT hmem
          go_wp2_with fail
          refine (text_yes ss[k] _ h4).mono ?_
          rintro e w3 ⟨rfl, b3⟩
          have hrow3 := hrow.below b3
          have hbel3 := hbel.trans (b3.mono hsz)
          have hsz3 := hbel3.size
          clear hrow hbel b3 hcell
          go_wp2_with (at_builtin; refine wpList_append_bytes _ rfl _ _ 41 9 rfl 5 i0 Try.underlying41 Try.underlying9 hi hz0 hz1 hz2 w.heap.size _ _ rfl hrow3 (textB ss[k]) rfl hbnd hsz3 ?_)
          intro v' w4 hrow4 hbel4
          have hrow5 : ByteRow w.heap.size w4 v' (numB ss.length ++ textsB (ss.take (k + 1))) := by rw [HR.out, List.append_assoc]; exact hrow4
          have hbel5 := hbel3.trans hbel4
          clear hrow4 hbel4 hrow3 hbel3 HR hbnd
          go_wp2
          go_roundw
          case rel => exact ⟨k + 1, by omega, by go_num, HA2.out, hrow5, hbel5⟩
          case measure => simp [intOf]; omega
        · have HV : Hid (joinV ss = .tuple #[.string ⟨#[]⟩, .int .i64 4]) := by
            refine joinV_no ?_
            cases hj : joinOk ss with
            | false => rfl
            | true => exact absurd (((joinOk_iff ss).1 hj).2 _ hmem) h4
          clear hL hL2 HA HT hmem hrow
          go_wp2_with fail
          refine (text_no ss[k] _ (by omega)).mono ?_
          rintro e w3 ⟨rfl, b3⟩
          have hbel3 := hbel.trans (b3.mono hsz)
          clear hbel b3 hcell
          go_wp2
          go_ret2
          exact ⟨congrArg Ending.returned HV.out.symm, hbel3⟩
      · have hkl : k = ss.length := by omega
        have HV : Hid (joinV ss = .tuple #[.string ⟨(joinB ss).toArray⟩, .int .i64 0]) := by
          refine joinV_yes ((joinOk_iff ss).2 ⟨hlen, ?_⟩)
          have := HA.out
          rw [hkl, List.take_length] at this
          exact this
        have hrow2 : ByteRow w.heap.size wr u4 (joinB ss) := by
          have := hrow
          rw [hkl, List.take_length] at this
          exact this
        obtain ⟨g, cp, rfl, h2, h3, h4, h5, h6, h7⟩ := hrow2.ex
        have hcv := run_convert_bytes_back (P := Try.prog) wr 41 9 5 ⟨g, 0, none⟩ cp (joinB ss) Try.underlying41 Try.underlying5 Try.underlying9 (fun j hj => by rw [Addr.add_lit, Nat.zero_add]; exact h6 j hj)
        clear hrow hrow2 h2 h3 h4 h5 h6 h7 HA
        go_wp2
        go_ret2
        exact ⟨congrArg Ending.returned HV.out.symm, hbel⟩
  · have HV : Hid (joinV ss = .tuple #[.string ⟨#[]⟩, .int .i64 4]) := by
      refine joinV_no ?_
      cases hj : joinOk ss with
      | false => rfl
      | true => exact absurd ((joinOk_iff ss).1 hj).1 hlen
    go_enter Try.func11, Try.ntmps11
    go_wp2
    go_ret2
    exact ⟨congrArg Ending.returned HV.out.symm, Below.refl _ _⟩

end Go.Proofs.Ytoppdclmahelmab
