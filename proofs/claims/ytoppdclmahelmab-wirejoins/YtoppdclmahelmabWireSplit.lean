/- The contract of wire.Split. -/
import Derived.Test.YtoppdclmahelmabWireJoin
namespace Go.Proofs.Ytoppdclmahelmab
open Go.RowKit

theorem Try.infoStr : (Try.prog.info? 9).map (fun i => (i.zero, i.size, i.bytes)) = some (some (.string ⟨#[]⟩), 1, 16) := by kernel_rfl

/-- n texts, one behind the other, and nothing behind. -/
def takeMany : Nat → ByteArray → Option (List ByteArray)
  | 0, r => if r.size = 0 then some [] else none
  | n + 1, r => match takeT r with
    | none => none
    | some (t, q) => (takeMany n q).map (t :: ·)

/-- The list that is read. -/
def splitL (s : ByteArray) : Option (List ByteArray) := match takeC 1000 s with
  | none => none
  | some (n, r) => takeMany n r

theorem takeT_size {s t r : ByteArray} (h : takeT s = some (t, r)) : r.size ≤ s.size ∧ t.size ≤ s.size := by
  obtain ⟨n, q, h1, h2, h3, h4⟩ := takeT_yes h
  obtain ⟨_, _, _, _, _, _, h5⟩ := takeC_yes h1
  have e1 := ext_size q n q.size
  have e2 := ext_size q 0 n
  rw [h4] at e1
  rw [h3] at e2
  omega

theorem empty_iff (r : ByteArray) : (r.toList == []) = decide (r.size = 0) := by
  rw [Lib.toList_data]
  have h : r.data.toList.length = r.size := Array.length_toList
  cases hl : r.data.toList with
  | nil => rw [hl] at h; simp at h; simp [← h]
  | cons x y => rw [hl] at h; simp at h; simp [← h]

theorem many_step {n k : Nat} {r0 rr t q : ByteArray} {acc : List ByteArray} (hk : k < n) (h : takeMany n r0 = (takeMany (n - k) rr).map (acc ++ ·)) (ht : takeT rr = some (t, q)) :
    takeMany n r0 = (takeMany (n - (k + 1)) q).map ((acc ++ [t]) ++ ·) := by
  rw [h, show n - k = (n - (k + 1)) + 1 by omega, takeMany, ht]
  simp only [Option.map_map]
  congr 1
  funext x
  simp

theorem many_stop {n k : Nat} {r0 rr : ByteArray} {acc : List ByteArray} (hk : k < n) (h : takeMany n r0 = (takeMany (n - k) rr).map (acc ++ ·)) (ht : takeT rr = none) : takeMany n r0 = none := by
  rw [h, show n - k = (n - (k + 1)) + 1 by omega, takeMany, ht]; rfl

theorem many_end {n : Nat} {r0 rr : ByteArray} {acc : List ByteArray} (h : takeMany n r0 = (takeMany (n - n) rr).map (acc ++ ·)) : takeMany n r0 = if rr.size = 0 then some acc else none := by
  rw [h, Nat.sub_self, takeMany]; split <;> simp

/-- How Split ends: 'no' where there is no list. -/
def SplitEnds (base : Nat) (yes no : Value) (M : Option (List ByteArray)) (e : Ending) (w' : World) : Prop := match M with
  | none => e = .returned (.tuple #[.slice none 0 0, no])
  | some ss => ∃ v, e = .returned (.tuple #[v, yes]) ∧ w'.ownsRow base 9 1 v ss.length (ss.map Value.string) ∧ ss.length ≤ 1000 ∧ ∀ x ∈ ss, x.size ≤ maxLen

theorem SplitEnds.none' {base : Nat} {yes no : Value} {M : Option (List ByteArray)} {e : Ending} {w' : World} (hM : M = none) (he : e = .returned (.tuple #[.slice none 0 0, no])) : SplitEnds base yes no M e w' := by
  subst hM; exact he
theorem SplitEnds.some' {base : Nat} {yes no : Value} {M : Option (List ByteArray)} {e : Ending} {w' : World} {v : Value} {ss : List ByteArray} (hM : M = some ss) (he : e = .returned (.tuple #[v, yes]))
    (ho : w'.ownsRow base 9 1 v ss.length (ss.map Value.string)) (hl : ss.length ≤ 1000) (hx : ∀ x ∈ ss, x.size ≤ maxLen) : SplitEnds base yes no M e w' := by
  subst hM; exact ⟨v, he, ho, hl, hx⟩

set_option maxRecDepth 100000 in
set_option maxHeartbeats 2000000 in
theorem split_any (s : ByteArray) (w : World) (hs : s.size ≤ maxLen) :
    Calls Try.prog 12 #[.string s] w fun e w' => SplitEnds w.heap.size (.int .i64 0) (.int .i64 2) (splitL s) e w' ∧ Below w.heap.size w w' := by
  obtain ⟨i0, hi, hz0, hz1, hz2⟩ := info_parts Try.infoStr
  have HS : Hid (s.size ≤ maxLen) := hs
  clear hs
  cases hC : takeC 1000 s with
  | none =>
    have hL : splitL s = none := by unfold splitL; rw [hC]
    have HL : Hid _ := hL
    have HC : Hid (takeC 1000 s = none) := hC
    clear hC hL
    go_enter Try.func12, Try.ntmps12
    go_wp2_with fail
    refine (count_no s 1000 _ HS.out HC.out).mono ?_
    rintro e w1 ⟨rfl, b1⟩
    go_wp2
    go_ret2
    exact ⟨SplitEnds.none' HL.out rfl, b1⟩
  | some p =>
    obtain ⟨n, r0⟩ := p
    have hL : splitL s = takeMany n r0 := by unfold splitL; rw [hC]
    have HL : Hid (splitL s = takeMany n r0) := hL
    have HC : Hid (takeC 1000 s = some (n, r0)) := hC
    have hn : n ≤ 1000 := by obtain ⟨_, _, _, _, _, h, _⟩ := takeC_yes hC; exact h
    have HR0 : Hid (r0.size ≤ maxLen) := by obtain ⟨_, _, _, _, _, _, h⟩ := takeC_yes hC; exact Nat.le_trans h HS.out
    clear hC hL
    go_enter Try.func12, Try.ntmps12
    go_wp2_with fail
    refine (count_yes s 1000 n r0 _ HS.out HC.out).mono ?_
    rintro e w1 ⟨rfl, b1⟩
    go_wp2_with fail
    go_loopw [5, 6, 7, 19] (fun r e v c wr => ∃ (k : Nat) (acc : List ByteArray) (rr : ByteArray), k ≤ n ∧ c = .int .i64 k ∧ e = .int .i64 0 ∧ r = .string rr ∧ rr.size ≤ maxLen ∧ takeMany n r0 = (takeMany (n - k) rr).map (acc ++ ·) ∧ acc.length = k ∧ (∀ x ∈ acc, x.size ≤ maxLen) ∧
        wr.ownsRow w.heap.size 9 1 v acc.length (acc.map Value.string) ∧ Below w.heap.size w wr) (fun _ _ _ c _ => n - (intOf c).toNat)
    case atStart => exact ⟨0, [], r0, by omega, rfl, rfl, rfl, HR0.out, by simp, rfl, by simp, World.ownsRow_nil _ _ _ _, b1⟩
    case round =>
      obtain ⟨k, acc, rr, hk, rfl, rfl, rfl, hrr, hE, hacc, hxs, hown, hbel⟩ := hrel
      have E : Hid (takeMany n r0 = (takeMany (n - k) rr).map (acc ++ ·)) := hE
      have HRR : Hid (rr.size ≤ maxLen) := hrr
      have HA : Hid (acc.length = k) := hacc
      have HX : Hid (∀ x ∈ acc, x.size ≤ maxLen) := hxs
      have hal : acc.length ≤ 1000 := by omega
      have hsz := hbel.size
      clear hE hrr hacc hxs HC HR0 HS b1
      by_cases hlt : k < n
      · cases hT : takeT rr with
        | none =>
          have HV : Hid (splitL s = none) := HL.out.trans (many_stop hlt E.out hT)
          have HT : Hid (takeT rr = none) := hT
          clear hT E HL hown
          go_wp2_with fail
          refine (takeText_no rr _ HRR.out HT.out).mono ?_
          rintro e w3 ⟨rfl, b3⟩
          have hbel3 := hbel.trans (b3.mono hsz)
          clear hbel b3
          go_wp2
          go_ret2
          exact ⟨SplitEnds.none' HV.out rfl, hbel3⟩
        | some p =>
          obtain ⟨t, q⟩ := p
          have E2 : Hid (takeMany n r0 = (takeMany (n - (k + 1)) q).map ((acc ++ [t]) ++ ·)) := many_step hlt E.out hT
          have HT : Hid (takeT rr = some (t, q)) := hT
          have HQ : Hid (q.size ≤ maxLen) := Nat.le_trans (takeT_size hT).1 HRR.out
          have HX2 : Hid (∀ x ∈ acc ++ [t], x.size ≤ maxLen) := by
            intro x hx
            rcases List.mem_append.1 hx with hx | hx
            · exact HX.out x hx
            · simp at hx; subst hx; exact Nat.le_trans (takeT_size hT).2 HRR.out
          clear hT E HX
          go_wp2_with fail
          refine (takeText_yes rr t q _ HRR.out HT.out).mono ?_
          rintro e w3 ⟨rfl, b3⟩
          have hbel3 := hbel.trans (b3.mono hsz)
          have hown3 : w3.ownsRow w.heap.size 9 1 u7 acc.length (acc.map Value.string) := by
            refine hown.kept (row := none) ⟨b3.os, b3.tape, b3.output, b3.size, fun k hk _ => b3.block k hk⟩ ?_
            cases h : u7.ownBlock with
            | none => exact .inl rfl
            | some x => exact .inr (by simp)
          have hsz3 := hbel3.size
          clear hbel b3 hown
          go_wp2_with (at_builtin; refine wpList_append_own _ rfl _ _ 23 rfl w.heap.size 9 i0 (.string ⟨#[]⟩) 1 16 Try.underlying23 hi hz0 hz1 hz2 rfl (by decide) _ _ _ rfl (hown3.alloc _) ⟨w3.heap.size, 0, none⟩ 1 1 [.string t] rfl rfl ?c1 ?c2 ?c3 ?c4 ?c5 ?_)
          case c1 =>
            intro j u hj
            match j, hj with
            | 0, hj => simp at hj; subst hj; simp [Addr.add]
          case c2 => intro u hu; simp at hu; subst hu; rfl
          case c3 => unfold maxLen; omega
          case c4 => omega
          case c5 => simp; omega
          · intro v' w4 hown4 hgrow _
            have hbel4 : Below w.heap.size w w4 := by
              refine (hbel3.alloc hsz3 _).grown hgrow (by simp; omega) ?_
              intro k hk
              exact (hown3.lt k hk).1
            have hown5 : w4.ownsRow w.heap.size 9 1 v' (acc ++ [t]).length ((acc ++ [t]).map Value.string) := by
              simpa using hown4
            have HA2 : Hid ((acc ++ [t]).length = k + 1) := by
              show (_ : Nat) = _
              rw [List.length_append, HA.out]; rfl
            clear hown4 hgrow hown3 hbel3 HA
            go_wp2
            go_roundw
            case rel => exact ⟨k + 1, acc ++ [t], q, by omega, by go_num, rfl, rfl, HQ.out, E2.out, HA2.out, HX2.out, hown5, hbel4⟩
            case measure => simp [intOf]; omega
      · have hkn : k = n := by omega
        have hend : takeMany n r0 = if rr.size = 0 then some acc else none := by
          have := E.out
          rw [hkn] at this
          exact many_end this
        have hem := empty_iff rr
        by_cases h0 : rr.size = 0
        · rw [if_pos h0] at hend
          have HV : Hid (splitL s = some acc) := HL.out.trans hend
          have hem' : rr.toList.isEmpty = true := by
            cases hl : rr.toList with
            | nil => rfl
            | cons x y => rw [hl] at hem; simp [h0] at hem
          clear hem hend E HL h0 hkn
          go_wp2
          go_ret2
          exact ⟨SplitEnds.some' HV.out rfl hown hal HX.out, hbel⟩
        · rw [if_neg h0] at hend
          have HV : Hid (splitL s = none) := HL.out.trans hend
          have hem' : rr.toList.isEmpty = false := by
            cases hl : rr.toList with
            | nil => rw [hl] at hem; simp [h0] at hem
            | cons x y => rfl
          clear hem hend E HL h0 hkn hown
          go_wp2
          go_ret2
          exact ⟨SplitEnds.none' HV.out rfl, hbel⟩

end Go.Proofs.Ytoppdclmahelmab
