/- The contracts of tree.isPath, within, fitsDir, fitsFile, Fits. -/
import Derived.Test.YtlfehfajaelmlaaTreeM
import Derived.Test.YtlfehfajaelmlaaPathF8
import Derived.Test.YtlfehfajaelmlaaRows
import Derived.WalkKit
import Derived.WalkSpells
import Derived.WalkLawsBesides
import Derived.Deep.RegionWith
import Derived.Deep.RegionLaw
import Derived.Deep.QuietTactic
import Derived.BigQuiet
import Derived.BigRegion
import Derived.Lib.QuietBelow
import Derived.Lib.MinMax
import Derived.OwnWalk
namespace Go.Proofs.Ytlfehfajaelmlaa
open Go.RowKit

theorem bel_cell {w w' : World} (h : Below w.heap.size w w') {a : Addr} {v : Value} (hc : w.cell? a = some v) : w'.cell? a = some v := (h.cell (World.block_lt_of_cell? _ _ hc)).trans hc
theorem cell_al {w : World} {a : Addr} {v : Value} (h : w.cell? a = some v) (o : Obj) : (w.alloc o).cell? a = some v := ((Below.refl _ w).alloc (Nat.le_refl _) o |>.cell (World.block_lt_of_cell? _ _ h)).trans h
theorem bel_al (w : World) (o : Obj) : Below w.heap.size w (w.alloc o) := (Below.refl _ w).alloc (Nat.le_refl _) o

set_option maxRecDepth 100000 in
theorem isPath_val (p : ByteArray) (v : Bool) (w : World) (hs : p.size ≤ maxLen) (hv : pathB p = v) :
    Calls Try.prog 36 #[.string p] w fun e w' => e = .returned (.bool v) ∧ Below w.heap.size w w' := by
  have HX : Hid (splitX p = (splitN p, splitE p)) := splitX_pair p
  have hE : (splitE p == 0) = v := by rw [← hv]; unfold pathB; by_cases h : splitE p = 0 <;> simp [h]
  generalize splitE p = E at *
  generalize splitN p = N at *
  obtain ⟨n, hn⟩ : ∃ n, N.length = n := ⟨_, rfl⟩
  have HN : Hid (N.length = n) := hn
  clear hn hv
  go_enter Try.func36, Try.ntmps36
  go_wp2_with fail
  refine (split_val p N E n _ hs HX.out HN.out).mono ?_
  rintro e w1 ⟨a, b, cap, rfl, hS, c⟩
  clear hS
  go_wp2
  go_ret
  exact ⟨rfl, c⟩

set_option maxRecDepth 100000 in
theorem within_val (n l m : Int) (v : Bool) (w : World) (hv : (decide (l ≤ n) && decide (n ≤ m)) = v) :
    Calls Try.prog 57 #[.int .i64 n, .int .i64 l, .int .i64 m] w fun e w' => e = .returned (.bool v) ∧ w' = w := by
  cases h1 : decide (l ≤ n) with
  | false =>
    rw [h1] at hv
    have hv2 : false = v := by simpa using hv
    clear hv
    subst hv2
    go_enter Try.func57, Try.ntmps57
    go_wp2
    go_ret
    exact ⟨rfl, rfl⟩
  | true =>
    rw [h1] at hv
    have hv2 : decide (n ≤ m) = v := by simpa using hv
    clear hv
    subst hv2
    go_enter Try.func57, Try.ntmps57
    go_wp2
    go_ret
    exact ⟨rfl, rfl⟩


set_option maxRecDepth 100000 in
theorem fitsDir_val (x : NR) (v : Bool) (w : World) (hx : NdOk w x) (hv : dirB x.1 = v) :
    Calls Try.prog 45 #[ndV x] w fun e w' => e = .returned (.bool v) ∧ Below w.heap.size w w' := by
  have hlen := hx.bs.len
  obtain ⟨⟨p, d, q, bs, wr⟩, ⟨a, n, c⟩⟩ := x
  have hn : bs.length = n := hlen
  unfold dirB at hv
  simp only [hn] at hv
  unfold ndV
  clear hx hlen hn
  by_cases h1 : n = 0
  · subst h1
    by_cases h2 : wr = -1
    · subst h2
      have hv2 : (decide (-1 ≤ q) && decide (q ≤ 9007199254740991)) = v := by simpa using hv
      have HV : Hid _ := hv2
      clear hv hv2
      go_enter Try.func45, Try.ntmps45
      go_wp2_with (refine (within_val q (-1) 9007199254740991 v _ HV.out).mono ?_; rintro e w1 ⟨rfl, rfl⟩)
      go_ret
      exact ⟨rfl, bel_al _ _⟩
    · have h3 : (wr == -1) = false := by simpa using h2
      have hv2 : v = false := by rw [← hv]; simp [h2]
      subst hv2
      clear hv h2
      go_enter Try.func45, Try.ntmps45
      go_wp2
      go_ret
      exact ⟨rfl, bel_al _ _⟩
  · have h3 : ((n : Int) == 0) = false := by simpa using h1
    have hv2 : v = false := by rw [← hv]; simp [h1]
    subst hv2
    clear hv h1
    go_enter Try.func45, Try.ntmps45
    go_wp2
    go_ret
    exact ⟨rfl, bel_al _ _⟩

end Go.Proofs.Ytlfehfajaelmlaa
