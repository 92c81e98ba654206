/- The reference's cache as a thing beside the program's. -/
import Derived.Test.YthogpaojdlfjcaaRetryRQ
import Derived.Test.YthogpaojdlfjcaaRetryR9
import Derived.Test.YthogpaojdlfjcaaRetryR4
import Derived.Test.YthogpaojdlfjcaaRetryS2
namespace Go.Proofs.Ythogpaojdlfjcaa.Rty
open Go.RowKit Go.Proofs.Ythogpaojdlfjcaa Go.Proofs.Ythogpaojdlfjcaa.Edi
set_option linter.unusedVariables false

/-- The reference's cache, that tells A. -/
def Rfc (w0 : World) (xb : Nat) (A : CL) : Thing := fun O w => ∃ R, R.map absR = A ∧ RAt w0 O w xb R
theorem stRfc (w0 : World) (xb : Nat) (A : CL) : St (Rfc w0 xb A) := fun _ _ _ _ ⟨R, h1, h2⟩ hs hd => ⟨R, h1, h2.stay hs hd⟩

section
variable {w0 w : World} {L : List (Nat × List Value)} {A1 : Thing} {xb : Nat} {A A' : CL}

theorem Sep.rcell (h : Sep w0 L w A1 (Rfc w0 xb A)) (n : Nat) (hn : A.length = n) : ∃ a c, w.cell? ⟨xb, 0, none⟩ = some (.slice a n c) := by
  obtain ⟨O1, O2, _, ⟨R, h1, h2⟩, _⟩ := h.out
  obtain ⟨a, c, h3⟩ := h2.any
  refine ⟨a, c, ?_⟩
  rw [h3, ← hn, ← h1, List.length_map]
/-- A new one. -/
theorem rf_new (h : Sep w0 L w A1 Non) (s1 : St A1) (T : TypeId) : Sep w0 L (w.alloc (.cells #[.slice none 0 0] T)) A1 (Rfc w0 w.heap.size []) := by
  obtain ⟨O1, O2, h1, h2, h3, h4, h5, h6, h7⟩ := h.out
  have hb : Below w.heap.size w (w.alloc (.cells #[.slice none 0 0] T)) := bel_al _ _
  have hs : Stay (fun _ => False) w (w.alloc (.cells #[.slice none 0 0] T)) := Stay.of_below hb
  have hsz : (w.alloc (.cells #[.slice none 0 0] T)).heap.size = w.heap.size + 1 := by simp
  refine ⟨O1, fun k => k = w.heap.size, s1 _ _ _ _ h1 hs (fun _ _ e => e), ⟨[], rfl, ⟨fun k hk => by rw [hk, hsz]; omega, rfl, ⟨none, 0, none, ?_, ?_⟩, ?_, by simp, fun r hr => by cases hr⟩⟩, fun k hk e => by have := (h4 k hk).2; omega, fun k hk => ⟨(h4 k hk).1, by have := (h4 k hk).2; omega⟩, fun k hk => by rw [hk, hsz]; exact ⟨h6.size, by omega⟩, bel_tr h6 hb, fun q hq => ?_⟩
  · exact (Cells.new w T [.slice none 0 0]).val 0 _ rfl
  · exact CelO.of (.nil rfl rfl rfl)
  · exact (Cells.new w T [.slice none 0 0]).fr 0
  · obtain ⟨a, b, c, d⟩ := h7 q hq
    exact ⟨a, fun e => by have := d.lt; omega, c, d.below hb⟩
theorem rf_put (h : Sep w0 L w A1 (Rfc w0 xb A)) (s1 : St A1) (hle : A.length ≤ 20) (hA : Apart A) {e : Ed} {a : Option Addr} {m q : Nat} {x : Ans} {s : Sls} (he : Nm w0 a m e.ls ∧ AnIn (fun b => b < w0.heap.size) w0 x s) {c k er : Int} (hp : PutE A c k e x er A') :
    Calls Try.prog 8 #[.pointer (some ⟨xb, 0, none⟩), .int .i64 c, .int .i64 k, edV e a m q, anV x s] w fun y w' => y = .returned (.int .i64 er) ∧ Sep w0 L w' A1 (Rfc w0 xb A') := by
  have hb := h.bel
  refine (h.swap.act (A1' := Rfc w0 xb A') (R := .returned (.int .i64 er)) s1 (fun O ⟨R, h1, h2⟩ hO => ?_)).mono (fun y w' ⟨k1, k2⟩ => ⟨k1, k2.swap⟩)
  subst h1
  refine (refPut_any h2 (by simpa using hle) hb hA he hp).mono ?_
  rintro y w' ⟨k1, k2, k3⟩
  exact ⟨k1, k2, k3⟩
theorem rf_forget (h : Sep w0 L w A1 (Rfc w0 xb A)) (s1 : St A1) (cl bl : Int) :
    Calls Try.prog 13 #[.pointer (some ⟨xb, 0, none⟩), .int .i64 cl, .int .i64 bl] w fun e w' => e = .returned (.tuple #[]) ∧ Sep w0 L w' A1 (Rfc w0 xb (forA A cl bl)) := by
  refine (h.swap.act (A1' := Rfc w0 xb (forA A cl bl)) (R := .returned (.tuple #[])) s1 (fun O ⟨R, h1, h2⟩ hO => ?_)).mono (fun y w' ⟨k1, k2⟩ => ⟨k1, k2.swap⟩)
  subst h1
  refine (refForget_val h2 cl bl).mono ?_
  rintro y w' ⟨k1, k2, k3⟩
  exact ⟨k1, ⟨_, keepR_abs R cl bl, k2⟩, k3⟩
theorem rf_get (h : Sep w0 L w A1 (Rfc w0 xb A)) (s1 : St A1) {e : Ed} {a : Option Addr} {m q : Nat} (hnm : Nm w a m e.ls) {c k : Int} (o : Option Ans) (er : Int) (ho : getA A c k e = (o, er)) :
    Calls Try.prog 10 #[.pointer (some ⟨xb, 0, none⟩), .int .i64 c, .int .i64 k, edV e a m q] w fun e w' => RGetR w0 o er e ∧ Sep w0 L w' A1 (Rfc w0 xb A) ∧ Below w.heap.size w w' := by
  obtain ⟨O1, O2, _, ⟨R, h1, h2⟩, _⟩ := h.out
  refine (refGet_val h2 h.bel hnm o er (by rw [h1]; exact ho)).mono ?_
  rintro y w' ⟨k1, k2⟩
  exact ⟨k1, h.below s1 (stRfc _ _ _) k2, k2⟩
end

end Go.Proofs.Ythogpaojdlfjcaa.Rty
