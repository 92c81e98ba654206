/- The contracts of quota.Count, quota.Over. -/
import Derived.Test.YtlfehfajaelmlaaQuotaF2
namespace Go.Proofs.Ytlfehfajaelmlaa
open Go.RowKit

/-- What Count tells. -/
def countN (u : Bool) (xs : NS) (p : ByteArray) : Nat := if u then cntL xs p else 0
def overs (u : Bool) (xs : NS) : List ByteArray := if u then overL xs else []
def rooms (u : Bool) (xs : NS) (p : ByteArray) : Int := if u then roomI xs p else 0

theorem Held.use {w : World} {b m : Nat} {f : ByteArray → Nat} (h : Held w b m f) (s : ByteArray) (F : Nat) (hF : f s = F) : ∃ D : DataW Value, w.ownsMap Try.prog 9 (plainElem Try.prog 3) b m D ∧ ∀ c : Int, D.atKey (.string s.data.toList) (.lit (.int .i64 0)) = .lit (.int .i64 c) → c = (F : Int) := by
  obtain ⟨D, hown, hat⟩ := h.ex
  refine ⟨D, hown, fun c hc => ?_⟩
  have h1 := hat s
  rw [hF, hc] at h1
  simpa using h1

theorem Held.look {w : World} {b m : Nat} {f : ByteArray → Nat} (h : Held w b m f) (s : ByteArray) (hs : s.size ≤ maxLen) (F : Nat) (hF : f s = F) : (Instr.lookup 42 (.map (some b)) (.string s) false).run Try.prog w = .ok (.int .i64 (F : Int)) w := by
  obtain ⟨D, hown, hat⟩ := h.use s F hF
  obtain ⟨c, hrun, h2, _⟩ := hown.lookup_int lawK Try.underlying42 Try.underlying3 (zeroI _) (WideMaps.keyOf_string_mk (P := Try.prog) Try.underlying9 (s := s) hs)
  obtain rfl := hat c h2
  exact hrun

set_option maxRecDepth 100000 in
set_option maxHeartbeats 1000000 in
theorem count_val {a : Option Addr} {n c : Nat} {xs : NS} {w : World} (h : NL w a n xs) (u : Bool) (hu : u = true ↔ Right xs) (p : ByteArray) (hs : p.size ≤ maxLen) (F : Nat) (hF : countN u xs p = F) :
    Calls Try.prog 12 #[.slice a n c, .string p] w fun e w' => e = .returned (.int .i64 (F : Int)) ∧ Below w.heap.size w w' := by
  have CR : Hid (Calls Try.prog 16 #[.slice a n c] w fun e w' => e = .returned (.bool u) ∧ Below w.heap.size w w') := right_val h u hu
  cases u with
  | false =>
    have h0 : F = 0 := by rw [← hF]; rfl
    subst h0
    clear hu hF
    go_enter Try.func12, Try.ntmps12
    go_wp2_with (go_at_call 16; refine CR.out.mono ?_; rintro e w1 ⟨rfl, c1⟩; have cc : Hid _ := c1; clear c1)
    go_ret
    exact ⟨rfl, cc.out⟩
  | true =>
    have hr := hu.1 rfl
    have hF2 : cntL xs p = F := hF
    have CC : Hid (∀ W, Below w.heap.size w W → Calls Try.prog 21 #[.slice a n c] W fun e w' => CountsR W.heap.size xs e w' ∧ Below W.heap.size W w') := fun W hb => counts_val (h.below hb) hr
    have hkey := WideMaps.keyOf_string_mk (P := Try.prog) Try.underlying9 (s := p) hs
    have HF : Hid (cntL xs p = F) := hF2
    clear hu hF hF2 hr h hs
    go_enter Try.func12, Try.ntmps12
    go_wp2_with (first
      | (go_at_call 16; refine CR.out.mono ?_; rintro e w1 ⟨rfl, c1⟩; have cc : Hid _ := c1; clear c1)
      | (go_at_call 21; refine (CC.out _ cc.out).mono ?_; rintro e w2 ⟨⟨b, rfl, hbb, hH⟩, c2⟩; have cc2 : Hid _ := bel_tr cc.out c2; obtain ⟨D, hown, hat⟩ := hH.use p F HF.out; have HAT : Hid _ := hat; clear c2 hH hbb hat)
      | (at_lookup; refine wpList_lookup_own_int _ rfl _ _ 42 rfl 9 3 .i64 lawK Try.underlying42 Try.underlying3 (zeroI _) b _ D rfl hown _ _ rfl hkey ?_; intro cv hcc hwc; obtain rfl := HAT.out cv hcc; clear hcc hwc))
    all_goals
      go_ret
      exact ⟨rfl, cc2.out⟩

end Go.Proofs.Ytlfehfajaelmlaa
