/- The contracts of disk.Read, List, Used, Down, Fuse. -/
import Derived.Test.YtokldcifhjkmnaaDiskF5
import Derived.Laws.BytesArg
namespace Go.Proofs.Ytokldcifhjkmnaa
open Go.RowKit

def rdE (ds : DS) (n : List UInt8) : Int := if ds.down then 12 else refM ds.S n
def rdT (ds : DS) (n : List UInt8) : ByteArray := if ds.down then ⟨#[]⟩ else ⟨(fdat ds.S n).toArray⟩

theorem rdE_eq {ds : DS} (n : List UInt8) (h : ds.down = false) : rdE ds n = refM ds.S n := by unfold rdE; rw [h]; rfl
theorem rdT_eq {ds : DS} (n : List UInt8) (h : ds.down = false) : rdT ds n = ⟨(fdat ds.S n).toArray⟩ := by unfold rdT; rw [h]; rfl

theorem fieldF (a : Option Addr) (L c : Nat) (s : Int) (w : World) : (Instr.field 72 (.agg #[.slice a L c, .int .i64 s]) 0).run Try.prog w = .ok (.slice a L c) w := by kernel_rfl

theorem byt_string {O : Nat → Prop} {w : World} {a : Option Addr} {c : Nat} {l : List UInt8} {g : Option Nat} (h : Byt O w (.slice a l.length c) l g) :
    (convert 57 9 (.slice a l.length c)).run Try.prog w = .ok (.string ⟨l.toArray⟩) w := by
  cases h with
  | nil h1 h2 =>
    subst h2
    cases h1
    exact run_convert_bytes_nil (P := Try.prog) w 57 5 Try.underlying57 Try.underlying5 0 0 9 Try.underlying9
  | row g cap h1 h2 h3 h4 h5 h6 h7 =>
    cases h1
    exact run_convert_bytes_back (P := Try.prog) w 57 9 5 ⟨g, 0, none⟩ _ l Try.underlying57 Try.underlying5 Try.underlying9 (fun j hj => by rw [Addr.add_lit, Nat.zero_add]; exact h6 j hj)

section
variable {O : Nat → Prop} {w : World} {pd : Nat} {ds : DS}

set_option maxRecDepth 100000 in
set_option maxHeartbeats 400000 in
theorem read_val (h : DAt O w pd ds) (s : ByteArray) (hs : s.size ≤ maxLen) (t : ByteArray) (q : Int) (ht : rdT ds s.data.toList = t) (hq : rdE ds s.data.toList = q) :
    Calls Try.prog 41 #[.pointer (some ⟨pd, 0, none⟩), .string s] w fun e w' => e = .returned (.tuple #[.string t, .int .i64 q]) ∧ Below w.heap.size w w' := by
  obtain ⟨room, fuse, down, S⟩ := ds
  obtain ⟨b, V, B, h⟩ := h
  have c3 : w.cell? ⟨pd, 3, none⟩ = some (.bool down) := h.c3
  have hkey := WideMaps.keyOf_string_mk (P := Try.prog) Try.underlying9 hs
  cases down with
  | true =>
    simp only [rdT, rdE, if_true] at ht hq
    subst ht hq
    clear h
    go_enter Try.func41, Try.ntmps41
    go_wp2
    go_ret2
    exact ⟨rfl, Below.refl _ _⟩
  | false =>
    simp only [rdT, rdE, Bool.false_eq_true, if_false] at ht hq
    have C1 : Hid _ := fun (_ : Unit) => refuseMissing_val h s hs q hq
    cases hf : fget S s.data.toList with
    | none =>
      have e5 : (5 : Int) = q := by rw [← hq]; unfold refM; rw [hf]; rfl
      have et : (⟨#[]⟩ : ByteArray) = t := by rw [← ht]; unfold fdat; rw [hf]
      subst e5 et
      clear h ht hq hf
      go_enter Try.func41, Try.ntmps41
      go_wp2_with fail
      refine (C1.out ()).mono ?_
      rintro e w1 ⟨rfl, b1⟩
      go_wp2
      go_ret2
      exact ⟨rfl, b1⟩
    | some f =>
      obtain ⟨l, sy⟩ := f
      have e5 : (0 : Int) = q := by rw [← hq]; unfold refM; rw [hf]; rfl
      have et : (⟨l.toArray⟩ : ByteArray) = t := by rw [← ht]; unfold fdat; rw [hf]
      subst e5 et
      have HH : Hid _ := h
      clear h ht hq
      go_enter Try.func41, Try.ntmps41
      go_wp2_with fail
      refine (C1.out ()).mono ?_
      rintro e w1 ⟨rfl, b1⟩
      have h1 := HH.out.below b1
      have c1 := h1.c1
      have hown := h1.own
      obtain ⟨a, c, hV, hy⟩ := h1.at hf
      have hat : (dm V S).atKey (.string s.data.toList) (.held (.agg #[.slice none 0 0, .int .i64 0])) = .held (.agg #[.slice a l.length c, .int .i64 (sy : Int)]) := by rw [dm_at, hf, hV]; rfl
      have hcv := byt_string hy
      have hfl := fieldF a l.length c sy w1
      clear h1 hV hy hf C1
      go_wp2_with (at_lookup; refine wpList_look _ rfl _ _ 64 rfl 9 72 lawK Try.underlying64 (zeroF _) (rv_mk _ _ _ _) b _ _ rfl hown _ _ rfl hkey _ hat ?_)
      go_ret2
      exact ⟨rfl, b1⟩

def usedN (ds : DS) : Nat := if ds.down then 0 else tot ds.S

def listN (ds : DS) : List (List UInt8) := if ds.down then [] else ds.S.map (·.1)

set_option maxRecDepth 100000 in
theorem fuse_val (h : DAt O w pd ds) (n f : Int) (hn : -9223372036854775808 ≤ n ∧ n < 9223372036854775808) (hf : max n 0 = f) :
    Calls Try.prog 24 #[.pointer (some ⟨pd, 0, none⟩), .int .i64 n] w fun e w' => e = .returned (.tuple #[]) ∧ DAt O w' pd { ds with fuse := f } ∧ Stay O w w' := by
  obtain ⟨b, V, B, h⟩ := h
  have f2 := h.f2
  have c2 := h.c2
  have hf0 : 0 ≤ f ∧ f < 9223372036854775808 := by omega
  have D2 : Hid _ := h.setFuse f hf0
  have S2 : Hid _ := Stay.setCell (O := O) w ⟨pd, 2, none⟩ (.int .i64 f) h.oP
  clear h
  go_enter Try.func24, Try.ntmps24
  go_wp2
  go_end0
  exact ⟨rfl, ⟨b, V, B, D2.out⟩, S2.out⟩

end

end Go.Proofs.Ytokldcifhjkmnaa
