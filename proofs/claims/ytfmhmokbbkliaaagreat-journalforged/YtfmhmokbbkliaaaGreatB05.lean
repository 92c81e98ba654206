/- Part 5 of the proof: WireJoin, WireSplit, WireSB. -/
import Derived.Test.YtfmhmokbbkliaaaGreatB02
import Derived.Test.YtfmhmokbbkliaaaGreatB03
import Derived.Test.YtfmhmokbbkliaaaGreatB04

/- The contract of wire.Join. -/
namespace Go.Proofs.YtfmhmokbbkliaaaGreat.Wir
open Go.RowKit Go.Proofs.YtfmhmokbbkliaaaGreat

/-- The bytes of some texts, one behind the other. -/
def textsB (ss : List ByteArray) : List UInt8 := (ss.map fun s => (textB s).data.toList).flatten
/-- The bytes of a list. -/
def joinB (ss : List ByteArray) : List UInt8 := numB ss.length ++ textsB ss
/-- May it be written? -/
def joinOk (ss : List ByteArray) : Bool := decide (ss.length ≤ 1000 ∧ ∀ s ∈ ss, s.size ≤ 4000)

theorem joinOk_iff (ss : List ByteArray) : joinOk ss = true ↔ ss.length ≤ 1000 ∧ ∀ s ∈ ss, s.size ≤ 4000 := by simp [joinOk]

theorem textsB_snoc (ss : List ByteArray) (s : ByteArray) : textsB (ss ++ [s]) = textsB ss ++ (textB s).data.toList := by simp [textsB]
theorem textsB_len : ∀ (ss : List ByteArray), (∀ s ∈ ss, s.size ≤ 4000) → (textsB ss).length ≤ 4010 * ss.length
  | [], _ => by simp [textsB]
  | s :: r, h => by
    have h1 := textsB_len r (fun x hx => h x (List.mem_cons_of_mem _ hx))
    have h2 := textB_len s (h s (List.mem_cons_self ..))
    have e : textsB (s :: r) = (textB s).data.toList ++ textsB r := by simp [textsB]
    rw [e, List.length_append, List.length_cons]
    omega

theorem take_next (ss : List ByteArray) (k : Nat) (h : k < ss.length) : ss.take (k + 1) = ss.take k ++ [ss[k]] := List.take_succ_eq_append_getElem h

theorem run_bytes_row {P : Program} (w : World) (src dst e : TypeId) (s : ByteArray) (hs : P.underlying src = some .string) (hd : P.underlying dst = some (.slice e)) (he : P.underlying e = some (.int .u8)) (hm : s.size ≤ maxLen) (base : Nat) (hb : base ≤ w.heap.size) :
    ∃ v w', (convert src dst (.string s)).run P w = .ok v w' ∧ ByteRow base w' v s.data.toList ∧ Below base w w' :=
  ⟨_, _, run_bytes_of_string w src dst e s hs hd he, ByteRow.made w e s hm base hb, ((Below.refl base w).drew).alloc hb _⟩

/-- What Join answers. -/
def joinV (ss : List ByteArray) : Value := if joinOk ss then .tuple #[.string ⟨(joinB ss).toArray⟩, .int .i64 0] else .tuple #[.string ⟨#[]⟩, .int .i64 4]
theorem joinV_yes {ss : List ByteArray} (h : joinOk ss = true) : joinV ss = .tuple #[.string ⟨(joinB ss).toArray⟩, .int .i64 0] := by unfold joinV; rw [if_pos h]
theorem joinV_no {ss : List ByteArray} (h : joinOk ss = false) : joinV ss = .tuple #[.string ⟨#[]⟩, .int .i64 4] := by unfold joinV; rw [h]; rfl

set_option maxRecDepth 100000 in
set_option maxHeartbeats 2000000 in
theorem join_any (a : Option Addr) (b off cap : Nat) (ss : List ByteArray) (w : World) (hS : Strs w a b off ss) :
    Calls Tryz.prog 89 #[.slice a ss.length cap] w fun e w' => e = .returned (joinV ss) ∧ Below w.heap.size w w' := by
  obtain ⟨i0, hi, hz0, hz1, hz2⟩ := info_parts Tryz.infoByte
  by_cases hlen : ss.length ≤ 1000
  · have hl10 := numB_len (n := (ss.length : Int)) (by omega) (by omega)
    go_enter Tryz.func89, Tryz.ntmps89
    go_wp2_with fail
    refine (num_any (ss.length : Int) _ (by omega) (by omega)).mono ?_
    rintro e w1 ⟨rfl, b1⟩
    have hb1 := b1.size
    obtain ⟨v0, w2, hcv, hrow0, hbel0⟩ := run_bytes_row (P := Tryz.prog) w1 9 113 5 ⟨(numB ss.length).toArray⟩ Tryz.underlying9 Tryz.underlying113 Tryz.underlying5 (by rw [mk_size]; unfold maxLen; omega) w.heap.size hb1
    have bb := b1.trans hbel0
    clear b1 hbel0
    go_wp2_with fail
    clear hcv
    go_loopw [4, 18] (fun v c wr => ∃ k : Nat, k ≤ ss.length ∧ c = .int .i64 k ∧ (∀ s ∈ ss.take k, s.size ≤ 4000) ∧ ByteRow w.heap.size wr v (numB ss.length ++ textsB (ss.take k)) ∧ Below w.heap.size w wr) (fun _ c _ => ss.length - (intOf c).toNat)
    case atStart => exact ⟨0, by omega, rfl, by simp, by simpa [textsB] using hrow0, bb⟩
    case round =>
      obtain ⟨k, hk, rfl, hall, hrow, hbel⟩ := hrel
      have HA : Hid (∀ s ∈ ss.take k, s.size ≤ 4000) := hall
      have hsz := hbel.size
      clear hall hrow0 bb
      by_cases hlt : k < ss.length
      · obtain rfl := hS.addr (by omega)
        have hbl : b < w.heap.size := hS.lt (by omega)
        have hcell : wr.cell? ⟨b, off + k, none⟩ = some (.string ss[k]) := (hbel.cell (p := ⟨b, off + k, none⟩) hbl).trans (hS.cell k hlt)
        have hmem : ss[k] ∈ ss := List.getElem_mem hlt
        have htn := take_next ss k hlt
        have HT : Hid (ss.take (k + 1) = ss.take k ++ [ss[k]]) := htn
        have hL := textsB_len (ss.take k) HA.out
        have hL2 : (ss.take k).length ≤ 1000 := by rw [List.length_take]; omega
        clear htn
        by_cases h4 : ss[k].size ≤ 4000
        · have hT4 := textB_len ss[k] h4
          have hts : (textB ss[k]).data.toList.length = (textB ss[k]).size := Array.length_toList
          have hbnd : (numB ss.length ++ textsB (ss.take k)).length + (textB ss[k]).size ≤ 140737488355328 := by
            rw [List.length_append]; omega
          have HA2 : Hid (∀ s ∈ ss.take (k + 1), s.size ≤ 4000) := by
            intro s hs
            rw [HT.out, List.mem_append] at hs
            rcases hs with hs | hs
            · exact HA.out s hs
            · simp at hs; subst hs; exact h4
          have HR : Hid (numB ss.length ++ textsB (ss.take (k + 1)) = (numB ss.length ++ textsB (ss.take k)) ++ (textB ss[k]).data.toList) := by
            show (_ : List UInt8) = _
            rw [HT.out, textsB_snoc, List.append_assoc]
          clear hL hL2 hT4 hts HA HT hmem
          go_wp2_with fail
          refine (text_yes ss[k] _ h4).mono ?_
          rintro e w3 ⟨rfl, b3⟩
          have hrow3 := hrow.below b3
          have hbel3 := hbel.trans (b3.mono hsz)
          have hsz3 := hbel3.size
          clear hrow hbel b3 hcell
          go_wp2_with (at_builtin; refine wpList_append_bytes _ rfl _ _ 113 9 rfl 5 i0 Tryz.underlying113 Tryz.underlying9 hi hz0 hz1 hz2 w.heap.size _ _ rfl hrow3 (textB ss[k]) rfl hbnd hsz3 ?_)
          intro v' w4 hrow4 hbel4
          have hrow5 : ByteRow w.heap.size w4 v' (numB ss.length ++ textsB (ss.take (k + 1))) := by rw [HR.out, List.append_assoc]; exact hrow4
          have hbel5 := hbel3.trans hbel4
          clear hrow4 hbel4 hrow3 hbel3 HR hbnd
          go_wp2
          go_roundw
          case rel => exact ⟨k + 1, by omega, by go_num, HA2.out, hrow5, hbel5⟩
          case measure => simp [intOf]; omega
        · have HV : Hid (joinV ss = .tuple #[.string ⟨#[]⟩, .int .i64 4]) := by
            refine joinV_no ?_
            cases hj : joinOk ss with
            | false => rfl
            | true => exact absurd (((joinOk_iff ss).1 hj).2 _ hmem) h4
          clear hL hL2 HA HT hmem hrow
          go_wp2_with fail
          refine (text_no ss[k] _ (by omega)).mono ?_
          rintro e w3 ⟨rfl, b3⟩
          have hbel3 := hbel.trans (b3.mono hsz)
          clear hbel b3 hcell
          go_wp2
          go_ret2
          exact ⟨congrArg Ending.returned HV.out.symm, hbel3⟩
      · have hkl : k = ss.length := by omega
        have HV : Hid (joinV ss = .tuple #[.string ⟨(joinB ss).toArray⟩, .int .i64 0]) := by
          refine joinV_yes ((joinOk_iff ss).2 ⟨hlen, ?_⟩)
          have := HA.out
          rw [hkl, List.take_length] at this
          exact this
        have hrow2 : ByteRow w.heap.size wr u4 (joinB ss) := by
          have := hrow
          rw [hkl, List.take_length] at this
          exact this
        obtain ⟨g, cp, rfl, h2, h3, h4, h5, h6, h7⟩ := hrow2.ex
        have hcv := run_convert_bytes_back (P := Tryz.prog) wr 113 9 5 ⟨g, 0, none⟩ cp (joinB ss) Tryz.underlying113 Tryz.underlying5 Tryz.underlying9 (fun j hj => by rw [Addr.add_lit, Nat.zero_add]; exact h6 j hj)
        clear hrow hrow2 h2 h3 h4 h5 h6 h7 HA
        go_wp2
        go_ret2
        exact ⟨congrArg Ending.returned HV.out.symm, hbel⟩
  · have HV : Hid (joinV ss = .tuple #[.string ⟨#[]⟩, .int .i64 4]) := by
      refine joinV_no ?_
      cases hj : joinOk ss with
      | false => rfl
      | true => exact absurd ((joinOk_iff ss).1 hj).1 hlen
    go_enter Tryz.func89, Tryz.ntmps89
    go_wp2
    go_ret2
    exact ⟨congrArg Ending.returned HV.out.symm, Below.refl _ _⟩

end Go.Proofs.YtfmhmokbbkliaaaGreat.Wir

/- The contract of wire.Split. -/
namespace Go.Proofs.YtfmhmokbbkliaaaGreat.Wir
open Go.RowKit Go.Proofs.YtfmhmokbbkliaaaGreat

theorem Tryz.infoStr : (Tryz.prog.info? 9).map (fun i => (i.zero, i.size, i.bytes)) = some (some (.string ⟨#[]⟩), 1, 16) := by kernel_rfl

/-- n texts, one behind the other, and nothing behind. -/
def takeMany : Nat → ByteArray → Option (List ByteArray)
  | 0, r => if r.size = 0 then some [] else none
  | n + 1, r => match takeT r with
    | none => none
    | some (t, q) => (takeMany n q).map (t :: ·)

/-- The list that is read. -/
def splitL (s : ByteArray) : Option (List ByteArray) := match takeC 1000 s with
  | none => none
  | some (n, r) => takeMany n r

theorem takeT_size {s t r : ByteArray} (h : takeT s = some (t, r)) : r.size ≤ s.size ∧ t.size ≤ s.size := by
  obtain ⟨n, q, h1, h2, h3, h4⟩ := takeT_yes h
  obtain ⟨_, _, _, _, _, _, h5⟩ := takeC_yes h1
  have e1 := ext_size q n q.size
  have e2 := ext_size q 0 n
  rw [h4] at e1
  rw [h3] at e2
  omega

theorem empty_iff (r : ByteArray) : (r.toList == []) = decide (r.size = 0) := by
  rw [Lib.toList_data]
  have h : r.data.toList.length = r.size := Array.length_toList
  cases hl : r.data.toList with
  | nil => rw [hl] at h; simp at h; simp [← h]
  | cons x y => rw [hl] at h; simp at h; simp [← h]

theorem many_step {n k : Nat} {r0 rr t q : ByteArray} {acc : List ByteArray} (hk : k < n) (h : takeMany n r0 = (takeMany (n - k) rr).map (acc ++ ·)) (ht : takeT rr = some (t, q)) :
    takeMany n r0 = (takeMany (n - (k + 1)) q).map ((acc ++ [t]) ++ ·) := by
  rw [h, show n - k = (n - (k + 1)) + 1 by omega, takeMany, ht]
  simp only [Option.map_map]
  congr 1
  funext x
  simp

theorem many_stop {n k : Nat} {r0 rr : ByteArray} {acc : List ByteArray} (hk : k < n) (h : takeMany n r0 = (takeMany (n - k) rr).map (acc ++ ·)) (ht : takeT rr = none) : takeMany n r0 = none := by
  rw [h, show n - k = (n - (k + 1)) + 1 by omega, takeMany, ht]; rfl

theorem many_end {n : Nat} {r0 rr : ByteArray} {acc : List ByteArray} (h : takeMany n r0 = (takeMany (n - n) rr).map (acc ++ ·)) : takeMany n r0 = if rr.size = 0 then some acc else none := by
  rw [h, Nat.sub_self, takeMany]; split <;> simp

/-- How Split ends: 'no' where there is no list. -/
def SplitEnds (base : Nat) (yes no : Value) (M : Option (List ByteArray)) (e : Ending) (w' : World) : Prop := match M with
  | none => e = .returned (.tuple #[.slice none 0 0, no])
  | some ss => ∃ v, e = .returned (.tuple #[v, yes]) ∧ w'.ownsRow base 9 1 v ss.length (ss.map Value.string) ∧ ss.length ≤ 1000 ∧ ∀ x ∈ ss, x.size ≤ maxLen

theorem SplitEnds.none' {base : Nat} {yes no : Value} {M : Option (List ByteArray)} {e : Ending} {w' : World} (hM : M = none) (he : e = .returned (.tuple #[.slice none 0 0, no])) : SplitEnds base yes no M e w' := by
  subst hM; exact he
theorem SplitEnds.some' {base : Nat} {yes no : Value} {M : Option (List ByteArray)} {e : Ending} {w' : World} {v : Value} {ss : List ByteArray} (hM : M = some ss) (he : e = .returned (.tuple #[v, yes]))
    (ho : w'.ownsRow base 9 1 v ss.length (ss.map Value.string)) (hl : ss.length ≤ 1000) (hx : ∀ x ∈ ss, x.size ≤ maxLen) : SplitEnds base yes no M e w' := by
  subst hM; exact ⟨v, he, ho, hl, hx⟩

set_option maxRecDepth 100000 in
set_option maxHeartbeats 2000000 in
theorem split_any (s : ByteArray) (w : World) (hs : s.size ≤ maxLen) :
    Calls Tryz.prog 93 #[.string s] w fun e w' => SplitEnds w.heap.size (.int .i64 0) (.int .i64 2) (splitL s) e w' ∧ Below w.heap.size w w' := by
  obtain ⟨i0, hi, hz0, hz1, hz2⟩ := info_parts Tryz.infoStr
  have HS : Hid (s.size ≤ maxLen) := hs
  clear hs
  cases hC : takeC 1000 s with
  | none =>
    have hL : splitL s = none := by unfold splitL; rw [hC]
    have HL : Hid _ := hL
    have HC : Hid (takeC 1000 s = none) := hC
    clear hC hL
    go_enter Tryz.func93, Tryz.ntmps93
    go_wp2_with fail
    refine (count_no s 1000 _ HS.out HC.out).mono ?_
    rintro e w1 ⟨rfl, b1⟩
    go_wp2
    go_ret2
    exact ⟨SplitEnds.none' HL.out rfl, b1⟩
  | some p =>
    obtain ⟨n, r0⟩ := p
    have hL : splitL s = takeMany n r0 := by unfold splitL; rw [hC]
    have HL : Hid (splitL s = takeMany n r0) := hL
    have HC : Hid (takeC 1000 s = some (n, r0)) := hC
    have hn : n ≤ 1000 := by obtain ⟨_, _, _, _, _, h, _⟩ := takeC_yes hC; exact h
    have HR0 : Hid (r0.size ≤ maxLen) := by obtain ⟨_, _, _, _, _, _, h⟩ := takeC_yes hC; exact Nat.le_trans h HS.out
    clear hC hL
    go_enter Tryz.func93, Tryz.ntmps93
    go_wp2_with fail
    refine (count_yes s 1000 n r0 _ HS.out HC.out).mono ?_
    rintro e w1 ⟨rfl, b1⟩
    go_wp2_with fail
    go_loopw [5, 6, 7, 19] (fun r e v c wr => ∃ (k : Nat) (acc : List ByteArray) (rr : ByteArray), k ≤ n ∧ c = .int .i64 k ∧ e = .int .i64 0 ∧ r = .string rr ∧ rr.size ≤ maxLen ∧ takeMany n r0 = (takeMany (n - k) rr).map (acc ++ ·) ∧ acc.length = k ∧ (∀ x ∈ acc, x.size ≤ maxLen) ∧
        wr.ownsRow w.heap.size 9 1 v acc.length (acc.map Value.string) ∧ Below w.heap.size w wr) (fun _ _ _ c _ => n - (intOf c).toNat)
    case atStart => exact ⟨0, [], r0, by omega, rfl, rfl, rfl, HR0.out, by simp, rfl, by simp, World.ownsRow_nil _ _ _ _, b1⟩
    case round =>
      obtain ⟨k, acc, rr, hk, rfl, rfl, rfl, hrr, hE, hacc, hxs, hown, hbel⟩ := hrel
      have E : Hid (takeMany n r0 = (takeMany (n - k) rr).map (acc ++ ·)) := hE
      have HRR : Hid (rr.size ≤ maxLen) := hrr
      have HA : Hid (acc.length = k) := hacc
      have HX : Hid (∀ x ∈ acc, x.size ≤ maxLen) := hxs
      have hal : acc.length ≤ 1000 := by omega
      have hsz := hbel.size
      clear hE hrr hacc hxs HC HR0 HS b1
      by_cases hlt : k < n
      · cases hT : takeT rr with
        | none =>
          have HV : Hid (splitL s = none) := HL.out.trans (many_stop hlt E.out hT)
          have HT : Hid (takeT rr = none) := hT
          clear hT E HL hown
          go_wp2_with fail
          refine (takeText_no rr _ HRR.out HT.out).mono ?_
          rintro e w3 ⟨rfl, b3⟩
          have hbel3 := hbel.trans (b3.mono hsz)
          clear hbel b3
          go_wp2
          go_ret2
          exact ⟨SplitEnds.none' HV.out rfl, hbel3⟩
        | some p =>
          obtain ⟨t, q⟩ := p
          have E2 : Hid (takeMany n r0 = (takeMany (n - (k + 1)) q).map ((acc ++ [t]) ++ ·)) := many_step hlt E.out hT
          have HT : Hid (takeT rr = some (t, q)) := hT
          have HQ : Hid (q.size ≤ maxLen) := Nat.le_trans (takeT_size hT).1 HRR.out
          have HX2 : Hid (∀ x ∈ acc ++ [t], x.size ≤ maxLen) := by
            intro x hx
            rcases List.mem_append.1 hx with hx | hx
            · exact HX.out x hx
            · simp at hx; subst hx; exact Nat.le_trans (takeT_size hT).2 HRR.out
          clear hT E HX
          go_wp2_with fail
          refine (takeText_yes rr t q _ HRR.out HT.out).mono ?_
          rintro e w3 ⟨rfl, b3⟩
          have hbel3 := hbel.trans (b3.mono hsz)
          have hown3 : w3.ownsRow w.heap.size 9 1 u7 acc.length (acc.map Value.string) := by
            refine hown.kept (row := none) ⟨b3.os, b3.tape, b3.output, b3.size, fun k hk _ => b3.block k hk⟩ ?_
            cases h : u7.ownBlock with
            | none => exact .inl rfl
            | some x => exact .inr (by simp)
          have hsz3 := hbel3.size
          clear hbel b3 hown
          go_wp2_with (at_builtin; refine wpList_append_own _ rfl _ _ 76 rfl w.heap.size 9 i0 (.string ⟨#[]⟩) 1 16 Tryz.underlying76 hi hz0 hz1 hz2 rfl (by decide) _ _ _ rfl (hown3.alloc _) ⟨w3.heap.size, 0, none⟩ 1 1 [.string t] rfl rfl ?c1 ?c2 ?c3 ?c4 ?c5 ?_)
          case c1 =>
            intro j u hj
            match j, hj with
            | 0, hj => simp at hj; subst hj; simp [Addr.add]
          case c2 => intro u hu; simp at hu; subst hu; rfl
          case c3 => unfold maxLen; omega
          case c4 => omega
          case c5 => simp; omega
          · intro v' w4 hown4 hgrow _
            have hbel4 : Below w.heap.size w w4 := by
              refine (hbel3.alloc hsz3 _).grown hgrow (by simp; omega) ?_
              intro k hk
              exact (hown3.lt k hk).1
            have hown5 : w4.ownsRow w.heap.size 9 1 v' (acc ++ [t]).length ((acc ++ [t]).map Value.string) := by
              simpa using hown4
            have HA2 : Hid ((acc ++ [t]).length = k + 1) := by
              show (_ : Nat) = _
              rw [List.length_append, HA.out]; rfl
            clear hown4 hgrow hown3 hbel3 HA
            go_wp2
            go_roundw
            case rel => exact ⟨k + 1, acc ++ [t], q, by omega, by go_num, rfl, rfl, HQ.out, E2.out, HA2.out, HX2.out, hown5, hbel4⟩
            case measure => simp [intOf]; omega
      · have hkn : k = n := by omega
        have hend : takeMany n r0 = if rr.size = 0 then some acc else none := by
          have := E.out
          rw [hkn] at this
          exact many_end this
        have hem := empty_iff rr
        by_cases h0 : rr.size = 0
        · rw [if_pos h0] at hend
          have HV : Hid (splitL s = some acc) := HL.out.trans hend
          have hem' : rr.toList.isEmpty = true := by
            cases hl : rr.toList with
            | nil => rfl
            | cons x y => rw [hl] at hem; simp [h0] at hem
          clear hem hend E HL h0 hkn
          go_wp2
          go_ret2
          exact ⟨SplitEnds.some' HV.out rfl hown hal HX.out, hbel⟩
        · rw [if_neg h0] at hend
          have HV : Hid (splitL s = none) := HL.out.trans hend
          have hem' : rr.toList.isEmpty = false := by
            cases hl : rr.toList with
            | nil => rw [hl] at hem; simp [h0] at hem
            | cons x y => rfl
          clear hem hend E HL h0 hkn hown
          go_wp2
          go_ret2
          exact ⟨SplitEnds.none' HV.out rfl, hbel⟩

end Go.Proofs.YtfmhmokbbkliaaaGreat.Wir

/- Plain: a list that was written is read as it was. -/
namespace Go.Proofs.YtfmhmokbbkliaaaGreat.Wir
open Go.Proofs.YtfmhmokbbkliaaaGreat
open Go.WideShapes (bytes_inj)

theorem many_back : ∀ (ss : List ByteArray), (∀ s ∈ ss, s.size ≤ 4000) → takeMany ss.length ⟨(textsB ss).toArray⟩ = some ss
  | [], _ => by rw [List.length_nil, takeMany, if_pos (by rfl)]
  | s :: r, h => by
    have e : (⟨(textsB (s :: r)).toArray⟩ : ByteArray) = textB s ++ ⟨(textsB r).toArray⟩ := by
      refine bytes_inj ?_
      rw [app_list]; simp [textsB]
    rw [List.length_cons, takeMany, e, takeT_back s _ (h s (List.mem_cons_self ..))]
    simp only
    rw [many_back r (fun x hx => h x (List.mem_cons_of_mem _ hx))]
    rfl

theorem split_back (ss : List ByteArray) (h : joinOk ss = true) : splitL ⟨(joinB ss).toArray⟩ = some ss := by
  obtain ⟨h1, h2⟩ := (joinOk_iff ss).1 h
  have e : (⟨(joinB ss).toArray⟩ : ByteArray) = ⟨(numB ss.length).toArray⟩ ++ ⟨(textsB ss).toArray⟩ := by
    refine bytes_inj ?_
    rw [app_list]; simp [joinB]
  unfold splitL
  rw [e, takeC_back 1000 ss.length _ h1 (by omega)]
  exact many_back ss h2

theorem join_size (ss : List ByteArray) (h : joinOk ss = true) : (⟨(joinB ss).toArray⟩ : ByteArray).size ≤ maxLen := by
  obtain ⟨h1, h2⟩ := (joinOk_iff ss).1 h
  have a := textsB_len ss h2
  have b := numB_len (n := (ss.length : Int)) (by omega) (by omega)
  rw [mk_size, joinB, List.length_append]
  unfold maxLen; omega

end Go.Proofs.YtfmhmokbbkliaaaGreat.Wir
