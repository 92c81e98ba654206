/- The contracts of disk.Append (whole), Sync, Delete, Rename. -/
import Derived.Test.YtokldcifhjkmnaaDiskF3
namespace Go.Proofs.Ytokldcifhjkmnaa
open Go.RowKit

section
variable {O : Nat → Prop} {w : World} {pd b : Nat} {V : List UInt8 → Value} {B : List UInt8 → Option Nat} {room fuse : Int} {down : Bool} {S : FS}

theorem grow_wide {w' : World} (h : DA O w' pd b V B room fuse down S) : DA (Grow O w w') w' pd b V B room fuse down S :=
  h.wide (fun _ e => .inl e) (fun k e => e.elim (h.lt k) (fun e => e.2))

theorem append_val {ds ds' : DS} (h : DAt O w pd ds) (s d : ByteArray) (hs : s.size ≤ maxLen) (hd : d.size ≤ 140737488355328) (q : Int) (hq : begE ds (refA ds s.data.toList d.data.toList) = q)
    (hds : doD ds (refA ds s.data.toList d.data.toList) (fapp s.data.toList d.data.toList) = ds') :
    Calls Try.prog 15 #[.pointer (some ⟨pd, 0, none⟩), .string s, .string d] w fun e w' => e = .returned (.int .i64 q) ∧ DAt (Grow O w w') w' pd ds' ∧ Stay O w w' := by
  obtain ⟨b, V, B, h⟩ := h
  obtain ⟨room, fuse, down, S⟩ := ds
  have hD := begD_form ⟨room, fuse, down, S⟩ (refA ⟨room, fuse, down, S⟩ s.data.toList d.data.toList)
  unfold doD at hds
  by_cases h0 : q = 0
  · subst h0
    have hr := begE_zero hq
    rw [if_pos hq] at hds
    rw [hr] at hq hD
    subst hds
    refine (append_yes h s d hs hd _ _ hr hq hD).mono fun e w' ⟨h1, ⟨V', B', h2⟩, h3⟩ => ⟨h1, ⟨b, V', B', ?_⟩, h3⟩
    rw [hr, begD_room]; exact h2
  · rw [hq, if_neg h0] at hds
    subst hds
    refine (append_no h s d hs hd _ q _ _ rfl hq hD h0).mono fun e w' ⟨h1, h2, h3⟩ => ⟨h1, ⟨b, V, B, ?_⟩, h3⟩
    rw [begD_room, begD_S]; exact grow_wide h2

/-- A change that would tell 0 and does f. -/
theorem wrap_do {ds ds' : DS} {F : Nat} {args : Array Value} {r : Int} (f : FS → FS) (h : DAt O w pd ds) (q : Int) (hq : begE ds r = q) (hds : doD ds r f = ds')
    (hno : ∀ b V B f' d', DA O w pd b V B ds.room ds.fuse ds.down ds.S → begD ds r = ⟨ds.room, f', d', ds.S⟩ → q ≠ 0 → Calls Try.prog F args w fun e w' => e = .returned (.int .i64 q) ∧ DA O w' pd b V B ds.room f' d' ds.S ∧ Stay O w w')
    (hyes : ∀ b V B f' d', DA O w pd b V B ds.room ds.fuse ds.down ds.S → r = 0 → begE ds 0 = 0 → begD ds 0 = ⟨ds.room, f', d', ds.S⟩ → Calls Try.prog F args w fun e w' => e = .returned (.int .i64 0) ∧ (∃ V' B', DA (Grow O w w') w' pd b V' B' ds.room f' d' (f ds.S)) ∧ Stay O w w') :
    Calls Try.prog F args w fun e w' => e = .returned (.int .i64 q) ∧ DAt (Grow O w w') w' pd ds' ∧ Stay O w w' := by
  obtain ⟨b, V, B, h⟩ := h
  have hD := begD_form ds r
  unfold doD at hds
  by_cases h0 : q = 0
  · subst h0
    have hr := begE_zero hq
    rw [if_pos hq] at hds
    rw [hr] at hq hD
    subst hds
    refine (hyes b V B _ _ h hr hq hD).mono fun e w' ⟨h1, ⟨V', B', h2⟩, h3⟩ => ⟨h1, ⟨b, V', B', ?_⟩, h3⟩
    rw [hr, begD_room]; exact h2
  · rw [hq, if_neg h0] at hds
    subst hds
    refine (hno b V B _ _ h hD h0).mono fun e w' ⟨h1, h2, h3⟩ => ⟨h1, ⟨b, V, B, ?_⟩, h3⟩
    rw [begD_room, begD_S]; exact grow_wide h2

set_option maxRecDepth 100000 in
set_option maxHeartbeats 1000000 in
theorem delete_val {ds ds' : DS} (h : DAt O w pd ds) (s : ByteArray) (hs : s.size ≤ maxLen) (q : Int) (hq : begE ds (refM ds.S s.data.toList) = q) (hds : doD ds (refM ds.S s.data.toList) (fun S => fdel S s.data.toList) = ds') :
    Calls Try.prog 69 #[.pointer (some ⟨pd, 0, none⟩), .string s] w fun e w' => e = .returned (.int .i64 q) ∧ DAt (Grow O w w') w' pd ds' ∧ Stay O w w' := by
  obtain ⟨room, fuse, down, S⟩ := ds
  have hkey := WideMaps.keyOf_string_mk (P := Try.prog) Try.underlying9 hs
  refine wrap_do _ h q hq hds ?_ ?_
  · intro b V B f' d' h hD hq0
    have C1 : Hid _ := fun (_ : Unit) => refuseMissing_val h s hs _ rfl
    have C2 : Hid (∀ w', Below w.heap.size w w' → _) := fun w' hb => begin_val (h.below hb) _ q f' d' hq hD
    clear h hq hD hds hkey
    go_enter Try.func69, Try.ntmps69
    go_wp2_with fail
    refine (C1.out ()).mono ?_
    rintro e w1 ⟨rfl, b1⟩
    go_wp2_with fail
    refine (C2.out _ b1).mono ?_
    rintro e w2 ⟨rfl, h2, s2, -⟩
    have HH : Hid _ := h2
    clear h2
    go_wp2
    go_ret
    exact ⟨rfl, HH.out, (Stay.of_below b1).then_same s2⟩
  · intro b V B f' d' h hr hq0 hD
    have C1 : Hid _ := fun (_ : Unit) => refuseMissing_val h s hs 0 hr
    have C2 : Hid (∀ w', Below w.heap.size w w' → _) := fun w' hb => begin_val (h.below hb) 0 0 f' d' hq0 hD
    clear h hq hD hds hq0 hr
    go_enter Try.func69, Try.ntmps69
    go_wp2_with fail
    refine (C1.out ()).mono ?_
    rintro e w1 ⟨rfl, b1⟩
    go_wp2_with fail
    refine (C2.out _ b1).mono ?_
    rintro e w2 ⟨rfl, h2, s2, -⟩
    have HH : Hid _ := h2
    have c1 := h2.c1
    have hown := h2.own
    clear h2 C1 C2
    go_wp2_with (at_delete; refine wpList_delete_own _ rfl _ _ 64 9 rfl 72 lawK Try.underlying64 rv b _ _ rfl hown _ _ rfl hkey ?_; intro w3 ho3 ht3)
    go_ret
    have h3 := HH.out.del ho3 ht3
    refine ⟨rfl, ⟨V, B, h3.wide (fun _ e => .inl e) (fun k e => e.elim (h3.lt k) (fun e => e.2))⟩, ?_⟩
    exact (Stay.of_below b1).then_same (s2.then_same (Stay.of_grown ht3.grown (fun k e => by cases e; exact HH.out.oB)))

end

end Go.Proofs.Ytokldcifhjkmnaa
