/- The contract of path.Split. -/
import Derived.Test.YtlfehfajaelmlaaPathF2
namespace Go.Proofs.Ytlfehfajaelmlaa
open Go.RowKit

theorem splitX_long {p : ByteArray} (h : 120 < p.size) : splitX p = ([], 4) := if_pos h
theorem splitX_root {p : ByteArray} (h : (p.toList == [47]) = true) : splitX p = ([], 0) := by
  have e : p.data.toList = [47] := by rw [← Lib.toList_data]; exact beq_iff_eq.1 h
  have hs : p.size = 1 := by rw [← list_sz, e]; rfl
  unfold splitX
  rw [if_neg (by omega), if_pos e]
/-- What is made of cut's answer. -/
def splitC : Option (List ByteArray) → List ByteArray × Int
  | none => ([], 1)
  | some ns => if ns.length = 0 then ([], 1) else if 6 < ns.length then ([], 4) else (ns, 0)
theorem splitX_cut {p : ByteArray} (h1 : p.size ≤ 120) (h2 : (p.toList == [47]) = false) : splitX p = splitC (cutL p.data.toList) := by
  have e : ¬ p.data.toList = [47] := by rw [← Lib.toList_data]; exact fun e => by rw [e] at h2; cases h2
  unfold splitX
  rw [if_neg (by omega), if_neg e]
  cases cutL p.data.toList <;> rfl

/-- How Split ends: names and an error. -/
structure SplitR (base : Nat) (X : List ByteArray × Int) (e : Ending) (w' : World) : Prop where
  ends : ∃ v, e = .returned (.tuple #[v, .int .i64 X.2]) ∧ w'.ownsRow base 9 1 v X.1.length (X.1.map Value.string)
  few : X.1.length ≤ 6
  small : ∀ x ∈ X.1, x.size ≤ 20

theorem SplitR.bad {base : Nat} {X : List ByteArray × Int} {e : Ending} {w' : World} {E : Int} (hX : X = ([], E)) (he : e = .returned (.tuple #[.slice none 0 0, .int .i64 E])) : SplitR base X e w' := by
  subst hX
  exact ⟨⟨_, he, World.ownsRow_nil _ _ _ _⟩, by simp, by simp⟩

theorem cut_small {l : List UInt8} {ns : List ByteArray} (h : cutL l = some ns) : ∀ x ∈ ns, x.size ≤ 20 := fun x hx => by
  have := nameL_len ((cut_sound _ _ _ (Nat.le_refl _) h).2 x hx)
  rw [list_sz] at this; exact this.2

theorem SplitR.good {base : Nat} {X : List ByteArray × Int} {e : Ending} {w' : World} {v : Value} {ns : List ByteArray} (hX : X = (ns, 0)) (he : e = .returned (.tuple #[v, .int .i64 0])) (ho : w'.ownsRow base 9 1 v ns.length (ns.map Value.string)) (hl : ns.length ≤ 6) (hx : ∀ x ∈ ns, x.size ≤ 20) : SplitR base X e w' := by
  subst hX
  exact ⟨⟨_, he, ho⟩, hl, hx⟩

set_option maxRecDepth 100000 in
set_option maxHeartbeats 400000 in
theorem split_any (p : ByteArray) (X : List ByteArray × Int) (w : World) (hs : p.size ≤ maxLen) (hX : splitX p = X) :
    Calls Try.prog 51 #[.string p] w fun e w' => SplitR w.heap.size X e w' ∧ Below w.heap.size w w' := by
  have hs2 : p.size ≤ 9223372036854775807 := by unfold maxLen at hs; omega
  have HX : Hid (splitX p = X) := hX
  clear hX hs
  by_cases h1 : 120 < p.size
  · have HV : Hid (X = ([], 4)) := HX.out.symm.trans (splitX_long h1)
    go_enter Try.func51, Try.ntmps51
    go_wp2
    go_ret2
    exact ⟨SplitR.bad HV.out rfl, Below.refl _ _⟩
  · cases h2 : p.toList == [47] with
    | true =>
      have HV : Hid (X = ([], 0)) := HX.out.symm.trans (splitX_root h2)
      go_enter Try.func51, Try.ntmps51
      go_wp2
      go_ret2
      exact ⟨SplitR.bad HV.out rfl, Below.refl _ _⟩
    | false =>
      have HC : Hid (splitX p = _) := splitX_cut (by omega) h2
      have HP : Hid (p.size ≤ 120) := by show _ ≤ _; omega
      cases hc : cutL p.data.toList with
      | none =>
        have HV : Hid (X = ([], 1)) := by have h := HC.out; rw [hc] at h; exact HX.out.symm.trans h
        have HCC : Hid (cutL p.data.toList = none) := hc
        clear HC hc
        go_enter Try.func51, Try.ntmps51
        go_wp2_with fail
        refine (cut_any p _ HP.out).mono ?_
        rintro e w1 ⟨c1, b1⟩
        rw [HCC.out] at c1
        obtain rfl := c1
        go_wp2
        go_ret2
        exact ⟨SplitR.bad HV.out rfl, b1⟩
      | some ns =>
        have HCC : Hid (cutL p.data.toList = some ns) := hc
        have HSM : Hid (∀ x ∈ ns, x.size ≤ 20) := cut_small hc
        have HC2 : Hid (X = if ns.length = 0 then ([], 1) else if 6 < ns.length then ([], 4) else (ns, 0)) := by have h := HC.out; rw [hc] at h; exact HX.out.symm.trans h
        clear HC hc HX
        go_enter Try.func51, Try.ntmps51
        go_wp2_with fail
        refine (cut_any p _ HP.out).mono ?_
        rintro e w1 ⟨c1, b1⟩
        rw [HCC.out] at c1
        obtain ⟨v, rfl, ho, hl⟩ := c1
        obtain ⟨a, cap, rfl⟩ := own_sl ho
        by_cases h0 : ns.length = 0
        · have HV : Hid (X = ([], 1)) := by have h := HC2.out; rw [if_pos h0] at h; exact h
          have h0' : decide (0 < ns.length) = false := by simp [h0]
          clear HC2 h0 ho
          go_wp2
          go_ret2
          exact ⟨SplitR.bad HV.out rfl, b1⟩
        · have h0' : decide (0 < ns.length) = true := by simp; omega
          by_cases h6 : 6 < ns.length
          · have HV : Hid (X = ([], 4)) := by have h := HC2.out; rw [if_neg h0, if_pos h6] at h; exact h
            clear HC2 ho
            go_wp2
            go_ret2
            exact ⟨SplitR.bad HV.out rfl, b1⟩
          · have HV : Hid (X = (ns, 0)) := by have h := HC2.out; rw [if_neg h0, if_neg h6] at h; exact h
            clear HC2
            go_wp2
            go_ret2
            exact ⟨SplitR.good HV.out rfl ho (by omega) HSM.out, b1⟩

end Go.Proofs.Ytlfehfajaelmlaa
