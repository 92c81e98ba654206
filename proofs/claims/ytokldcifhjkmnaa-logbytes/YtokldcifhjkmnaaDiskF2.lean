/- The contracts of disk.refuseAppend, refuseRename. -/
import Derived.Test.YtokldcifhjkmnaaDiskF1
import Derived.Test.YtokldcifhjkmnaaDiskAp
namespace Go.Proofs.Ytokldcifhjkmnaa
open Go.RowKit

theorem bel_tr {a b c : World} (h : Below a.heap.size a b) (k : Below b.heap.size b c) : Below a.heap.size a c := h.trans (k.mono h.size)

section
variable {O : Nat → Prop} {w : World} {pd b : Nat} {V : List UInt8 → Value} {B : List UInt8 → Option Nat} {room fuse : Int} {down : Bool} {S : FS}

theorem look_any (h : DA O w pd b V B room fuse down S) (n : List UInt8) :
    ∃ a L c sy, (dm V S).atKey (.string n) (.held (.agg #[.slice none 0 0, .int .i64 0])) = .held (.agg #[.slice a L c, .int .i64 sy]) ∧ L = flen (fget S n) ∧ L ≤ 400000 := by
  rw [dm_at]
  cases hf : fget S n with
  | none => exact ⟨none, 0, 0, 0, rfl, rfl, by omega⟩
  | some f =>
    obtain ⟨a, c, h1, _⟩ := h.at hf
    exact ⟨a, f.1.length, c, f.2, by rw [h1]; rfl, rfl, (h.data _ (fget_mem hf)).1⟩

set_option maxRecDepth 100000 in
set_option maxHeartbeats 1000000 in
theorem refuseAppend_val (h : DA O w pd b V B room fuse down S) (s d : ByteArray) (hs : s.size ≤ maxLen) (hd : d.size ≤ 140737488355328) (q : Int) (hq : refA ⟨room, fuse, down, S⟩ s.data.toList d.data.toList = q) :
    Calls Try.prog 35 #[.pointer (some ⟨pd, 0, none⟩), .string s, .string d] w fun e w' => e = .returned (.int .i64 q) ∧ Below w.heap.size w w' := by
  have hdl : d.data.toList.length = d.size := Array.length_toList
  unfold refA at hq
  simp only [hdl] at hq
  have c0 := h.c0
  have c1 := h.c1
  have hown := h.own
  have hkey := WideMaps.keyOf_string_mk (P := Try.prog) Try.underlying9 hs
  cases hn : nameOk s.data.toList with
  | false =>
    rw [hn] at hq
    simp at hq
    subst hq
    have C1 : Hid _ := fun w => isName_val s false w hs hn
    clear h hown hkey c0 c1 hs hd hdl hn
    go_enter Try.func35, Try.ntmps35
    go_wp2_with (go_at_call 61; refine (C1.out _).mono ?_; rintro e w1 ⟨rfl, rfl⟩)
    go_ret
    exact ⟨rfl, Below.refl _ _⟩
  | true =>
    rw [hn] at hq
    have C1 : Hid _ := fun w => isName_val s true w hs hn
    obtain ⟨a, L, c, sy, hat, hL, hL4⟩ := look_any h s.data.toList
    have hh := dm_has V S s.data.toList
    obtain ⟨y, hy⟩ : ∃ y, (fget S s.data.toList).isSome = y := ⟨_, rfl⟩
    rw [hy] at hh
    have hno : (fget S s.data.toList).isNone = !y := by rw [← hy]; cases fget S s.data.toList <;> rfl
    rw [hno, ← hL] at hq
    simp only [if_true] at hq
    have c1a : ∀ o, (w.alloc o).cell? ⟨pd, 1, none⟩ = some (.map (some b)) := fun o => (h.below ((Below.refl _ w).alloc (Nat.le_refl _) o)).c1
    have c0a : Hid (∀ o, (w.alloc o).cell? ⟨pd, 0, none⟩ = some (.int .i64 room)) := fun o => (h.below ((Below.refl _ w).alloc (Nat.le_refl _) o)).c0
    clear c0
    have hlen : ∀ o ty, (Builtin.len_ #[64] ty #[.map (some b)]).run Try.prog (w.alloc o) = .ok (.int .i64 S.length) (w.alloc o) := fun o ty => by
      have := (hown.alloc o).len Try.underlying64 ty
      rwa [dm_size] at this
    have hmost := h.most
    obtain ⟨T, hT⟩ : ∃ T, tot S = T := ⟨_, rfl⟩
    have hr0 := h.r0
    have hus := h.used
    have hT8 := h.tot8
    rw [hT] at hq hus hT8
    have C2 : Hid (∀ o : Obj, ∀ w', Below (w.alloc o).heap.size (w.alloc o) w' → Calls Try.prog 62 #[.pointer (some ⟨pd, 0, none⟩)] w' fun e w'' => e = .returned (.int .i64 T) ∧ Below w'.heap.size w' w'') := fun o w' hb => stored_val ((h.below ((Below.refl _ w).alloc (Nat.le_refl _) _)).below hb) T hT
    generalize S.length = n at *
    have HQ : Hid _ := hq
    clear hq h hL hT hn hdl hno hy
    by_cases h1 : 400000 < L + d.size
    · have HQ2 : Hid (4 = q) := by have := HQ.out; rwa [if_pos h1] at this
      clear HQ C2 hlen
      go_enter Try.func35, Try.ntmps35
      go_wp2_with (first
        | (go_at_call 61; refine (C1.out _).mono ?_; rintro e w1 ⟨rfl, rfl⟩)
        | (at_lookup; refine wpList_look_ok _ rfl _ _ 64 rfl 9 72 lawK Try.underlying64 (zeroF _) (rv_mk _ _ _ _) b _ _ rfl hown _ _ rfl hkey _ y hat hh ?_))
      go_ret
      exact ⟨by rw [← HQ2.out]; rfl, (Below.refl _ _).alloc (Nat.le_refl _) _⟩
    · cases y with
      | false =>
        by_cases h2 : 20 ≤ n
        · have HQ2 : Hid (4 = q) := by have := HQ.out; simp [h1, h2] at this; exact this
          clear HQ C2
          go_enter Try.func35, Try.ntmps35
          go_wp2_with (first
            | (go_at_call 61; refine (C1.out _).mono ?_; rintro e w1 ⟨rfl, rfl⟩)
            | (at_lookup; refine wpList_look_ok _ rfl _ _ 64 rfl 9 72 lawK Try.underlying64 (zeroF _) (rv_mk _ _ _ _) b _ _ rfl hown _ _ rfl hkey _ false hat hh ?_))
          go_ret
          exact ⟨by rw [← HQ2.out]; rfl, (Below.refl _ _).alloc (Nat.le_refl _) _⟩
        · have HQ2 : Hid ((if room < (T : Int) + (d.size : Int) then 8 else 0) = q) := by have := HQ.out; simp [h1, h2] at this; exact this
          clear HQ
          by_cases h3 : room < (T : Int) + (d.size : Int)
          all_goals
            go_enter Try.func35, Try.ntmps35
            go_wp2_with (first
              | (go_at_call 61; refine (C1.out _).mono ?_; rintro e w1 ⟨rfl, rfl⟩)
              | (at_lookup; refine wpList_look_ok _ rfl _ _ 64 rfl 9 72 lawK Try.underlying64 (zeroF _) (rv_mk _ _ _ _) b _ _ rfl hown _ _ rfl hkey _ false hat hh ?_))
            obtain ⟨W, hW⟩ : ∃ W, w1.alloc (.cells #[.slice a L c, .int .i64 sy] 72) = W := ⟨_, rfl⟩
            have hbW : Below w1.heap.size w1 W := hW ▸ (Below.refl _ w1).alloc (Nat.le_refl _) _
            have c0W : W.cell? ⟨pd, 0, none⟩ = some (.int .i64 room) := hW ▸ c0a.out _
            have C3 : Hid (∀ w', Below W.heap.size W w' → Calls Try.prog 62 #[.pointer (some ⟨pd, 0, none⟩)] w' fun e w'' => e = .returned (.int .i64 T) ∧ Below w'.heap.size w' w'') := hW ▸ C2.out _
            rw [hW]
            clear hW C2 c0a c1a hlen hown hkey hat hh C1 c1
            have hc0 : ∀ d os, (Sort.grow (redrawn W d) os).cell? ⟨pd, 0, none⟩ = some (.int .i64 room) := fun d os => cell_regrown c0W d os
            refine wp_region_quiet_below (by kernel_rfl) (by kernel_rfl) ?_
            repeat (first | go_big_quiet_step (exact Calls.regrown_of (C3.out _ (below_regrown _ _ _))) | quiet_step (exact Calls.regrown_of (C3.out _ (below_regrown _ _ _))))
            refine wpQuiet_nil ?_
            intro _ hw'
            obtain ⟨⟨dq, osq⟩, hw''⟩ := hw'
            subst hw''
            have hb3 : Below w1.heap.size w1 (Sort.grow (redrawn W dq) osq) := bel_tr hbW (below_regrown W dq osq)
            generalize Sort.grow (redrawn W dq) osq = w3 at *
            clear hc0 C3
            go_wp2
            go_ret
            exact ⟨by rw [← HQ2.out]; simp [h3], hb3⟩
      | true =>
        have HQ2 : Hid ((if room < (T : Int) + (d.size : Int) then 8 else 0) = q) := by have := HQ.out; simp [h1] at this; exact this
        clear HQ
        by_cases h3 : room < (T : Int) + (d.size : Int)
        all_goals
          go_enter Try.func35, Try.ntmps35
          go_wp2_with (first
            | (go_at_call 61; refine (C1.out _).mono ?_; rintro e w1 ⟨rfl, rfl⟩)
            | (at_lookup; refine wpList_look_ok _ rfl _ _ 64 rfl 9 72 lawK Try.underlying64 (zeroF _) (rv_mk _ _ _ _) b _ _ rfl hown _ _ rfl hkey _ true hat hh ?_))
          obtain ⟨W, hW⟩ : ∃ W, w1.alloc (.cells #[.slice a L c, .int .i64 sy] 72) = W := ⟨_, rfl⟩
          have hbW : Below w1.heap.size w1 W := hW ▸ (Below.refl _ w1).alloc (Nat.le_refl _) _
          have c0W : W.cell? ⟨pd, 0, none⟩ = some (.int .i64 room) := hW ▸ c0a.out _
          have C3 : Hid (∀ w', Below W.heap.size W w' → Calls Try.prog 62 #[.pointer (some ⟨pd, 0, none⟩)] w' fun e w'' => e = .returned (.int .i64 T) ∧ Below w'.heap.size w' w'') := hW ▸ C2.out _
          rw [hW]
          clear hW C2 c0a c1a hlen hown hkey hat hh C1 c1
          have hc0 : ∀ d os, (Sort.grow (redrawn W d) os).cell? ⟨pd, 0, none⟩ = some (.int .i64 room) := fun d os => cell_regrown c0W d os
          refine wp_region_quiet_below (by kernel_rfl) (by kernel_rfl) ?_
          repeat (first | go_big_quiet_step (exact Calls.regrown_of (C3.out _ (below_regrown _ _ _))) | quiet_step (exact Calls.regrown_of (C3.out _ (below_regrown _ _ _))))
          refine wpQuiet_nil ?_
          intro _ hw'
          obtain ⟨⟨dq, osq⟩, hw''⟩ := hw'
          subst hw''
          have hb3 : Below w1.heap.size w1 (Sort.grow (redrawn W dq) osq) := bel_tr hbW (below_regrown W dq osq)
          generalize Sort.grow (redrawn W dq) osq = w3 at *
          clear hc0 C3
          go_wp2
          go_ret
          exact ⟨by rw [← HQ2.out]; simp [h3], hb3⟩

end

end Go.Proofs.Ytokldcifhjkmnaa
