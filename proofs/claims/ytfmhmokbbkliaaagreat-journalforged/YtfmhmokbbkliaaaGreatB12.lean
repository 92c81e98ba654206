/- Part 12 of the proof: DiskF1. -/
import Derived.Test.YtfmhmokbbkliaaaGreatB08
import Derived.Test.YtfmhmokbbkliaaaGreatB10
import Derived.Test.YtfmhmokbbkliaaaGreatB11
import Derived.BigQuiet
import Derived.BigRegion
import Derived.Deep.QuietTactic
import Derived.Deep.RegionWith
import Derived.Lib.MinMax
import Derived.Lib.QuietBelow
import Derived.Maps.RangeWalk
import Derived.OwnWalk
import Derived.Test.YtfmhmokbbkliaaaGreatRows
import Derived.WalkKit
import Derived.WalkLawsBesides
import Derived.WalkSpells

/- The contracts of disk.isName, refuseMissing, begin, stored, names, New. -/
namespace Go.Proofs.YtfmhmokbbkliaaaGreat
open Go.RowKit

theorem lawK : Maps.Keyed Tryz.prog 9 := Maps.string_keyed Tryz.underlying9
theorem zeroF (w : World) : (zeroValue 115).run Tryz.prog w = .ok (.agg #[.slice none 0 0, .int .i64 0]) w := by kernel_rfl

abbrev DA (O : Nat → Prop) (w : World) (pd b : Nat) (V : List UInt8 → Value) (B : List UInt8 → Option Nat) (room fuse : Int) (down : Bool) (S : FS) : Prop := DiskAt Tryz.prog 9 O w pd b V B room fuse down S
def DAt (O : Nat → Prop) (w : World) (pd : Nat) (ds : DS) : Prop := ∃ b V B, DA O w pd b V B ds.room ds.fuse ds.down ds.S

set_option maxRecDepth 100000 in
theorem isName_val (s : ByteArray) (v : Bool) (w : World) (hs : s.size ≤ maxLen) (hv : nameOk s.data.toList = v) :
    Calls Tryz.prog 119 #[.string s] w fun e w' => e = .returned (.bool v) ∧ w' = w := by
  have hs2 : s.size ≤ 9223372036854775807 := by unfold maxLen at hs; omega
  have hl : s.data.toList.length = s.size := Array.length_toList
  have HV : Hid (nameOk s.data.toList = v) := hv
  clear hv hs
  unfold nameOk at HV
  rw [hl] at HV
  clear hl
  by_cases h1 : 1 ≤ s.size
  · by_cases h2 : s.size ≤ 30
    · go_enter Tryz.func119, Tryz.ntmps119
      go_wp2
      go_ret
      refine ⟨?_, rfl⟩
      rw [← HV.out]; simp [h1, h2]; omega
    · go_enter Tryz.func119, Tryz.ntmps119
      go_wp2
      go_ret
      refine ⟨?_, rfl⟩
      rw [← HV.out]; simp [h1, h2]; omega
  · go_enter Tryz.func119, Tryz.ntmps119
    go_wp2
    go_ret
    refine ⟨?_, rfl⟩
    rw [← HV.out]; simp [h1]

section
variable {O : Nat → Prop} {w : World} {pd b : Nat} {V : List UInt8 → Value} {B : List UInt8 → Option Nat} {room fuse : Int} {down : Bool} {S : FS}

set_option maxRecDepth 100000 in
set_option maxHeartbeats 400000 in
theorem refuseMissing_val (h : DA O w pd b V B room fuse down S) (s : ByteArray) (hs : s.size ≤ maxLen) (q : Int) (hq : refM S s.data.toList = q) :
    Calls Tryz.prog 118 #[.pointer (some ⟨pd, 0, none⟩), .string s] w fun e w' => e = .returned (.int .i64 q) ∧ Below w.heap.size w w' := by
  have c1 := h.c1
  have hown := h.own
  have hkey := WideMaps.keyOf_string_mk (P := Tryz.prog) Tryz.underlying9 hs
  have hh := dm_has V S s.data.toList
  have HQ : Hid (refM S s.data.toList = q) := hq
  clear hq hs h
  cases hf : (fget S s.data.toList).isSome with
  | true =>
    rw [hf] at hh
    have HQ2 : Hid (0 = q) := by rw [← HQ.out, refM, hf]; rfl
    clear HQ hf
    go_enter Tryz.func118, Tryz.ntmps118
    go_wp2_with (at_lookup; refine wpList_lookup_own_ok _ rfl _ _ 92 rfl 9 115 lawK Tryz.underlying92 rv (zeroF _) _ [] (rv_mk _ _ _ _) b _ _ rfl hown _ _ rfl hkey ?_; intro v ps hv; obtain ⟨x, rfl, -⟩ := rv_inv hv; clear hv; unfold mkV; rw [hh])
    go_ret
    exact ⟨by rw [← HQ2.out]; rfl, (Below.refl _ w).alloc (Nat.le_refl _) _⟩
  | false =>
    rw [hf] at hh
    have HQ2 : Hid (5 = q) := by rw [← HQ.out, refM, hf]; rfl
    clear HQ hf
    go_enter Tryz.func118, Tryz.ntmps118
    go_wp2_with (at_lookup; refine wpList_lookup_own_ok _ rfl _ _ 92 rfl 9 115 lawK Tryz.underlying92 rv (zeroF _) _ [] (rv_mk _ _ _ _) b _ _ rfl hown _ _ rfl hkey ?_; intro v ps hv; obtain ⟨x, rfl, -⟩ := rv_inv hv; clear hv; unfold mkV; rw [hh])
    go_ret
    exact ⟨by rw [← HQ2.out]; rfl, (Below.refl _ w).alloc (Nat.le_refl _) _⟩

set_option maxRecDepth 100000 in
set_option maxHeartbeats 400000 in
theorem begin_val (h : DA O w pd b V B room fuse down S) (e q f' : Int) (d' : Bool) (hq : begE ⟨room, fuse, down, S⟩ e = q) (hd : begD ⟨room, fuse, down, S⟩ e = ⟨room, f', d', S⟩) :
    Calls Tryz.prog 78 #[.pointer (some ⟨pd, 0, none⟩), .int .i64 e] w fun x w' => x = .returned (.int .i64 q) ∧ DA O w' pd b V B room f' d' S ∧ Stay O w w' ∧ w'.heap.size = w.heap.size := by
  have c2 := h.c2
  have c3 := h.c3
  have f2 := h.f2
  have f3 := h.f3
  have HH : Hid (DA O w pd b V B room fuse down S) := h
  cases down with
  | true =>
    simp only [begE, begD, if_true] at hq hd
    cases hq
    simp only [DS.mk.injEq, and_true, true_and] at hd
    obtain ⟨rfl, rfl⟩ := hd
    clear h
    go_enter Tryz.func78, Tryz.ntmps78
    go_wp2
    go_ret
    exact ⟨rfl, HH.out, Stay.refl _ _, rfl⟩
  | false =>
    simp only [begE, begD, Bool.false_eq_true, if_false] at hq hd
    by_cases he : e = 0
    · subst he
      by_cases h0 : fuse = 0
      · subst h0
        simp at hq hd
        subst hq
        obtain ⟨rfl, rfl⟩ := hd
        clear h
        go_enter Tryz.func78, Tryz.ntmps78
        go_wp2
        go_ret
        exact ⟨rfl, HH.out, Stay.refl _ _, rfl⟩
      · have hfu := h.fu
        by_cases h1 : fuse = 1
        · subst h1
          simp at hq hd
          subst hq
          obtain ⟨rfl, rfl⟩ := hd
          have D2 : Hid _ := (h.setFuse 0 (by omega)).setDown true
          have S2 : Hid _ := (Stay.setCell (O := O) w ⟨pd, 2, none⟩ (.int .i64 0) h.oP).then_same (Stay.setCell (O := O) _ ⟨pd, 3, none⟩ (.bool true) h.oP)
          clear h HH
          go_enter Tryz.func78, Tryz.ntmps78
          go_wp2
          go_ret
          exact ⟨rfl, D2.out, S2.out, by simp [World.setCell]⟩
        · simp [h0, h1] at hq hd
          subst hq
          obtain ⟨rfl, rfl⟩ := hd
          have D2 : Hid _ := h.setFuse (fuse - 1) (by omega)
          have S2 : Hid _ := Stay.setCell (O := O) w ⟨pd, 2, none⟩ (.int .i64 (fuse - 1)) h.oP
          clear h HH
          go_enter Tryz.func78, Tryz.ntmps78
          go_wp2
          go_ret
          exact ⟨rfl, D2.out, S2.out, by simp [World.setCell]⟩
    · simp [he] at hq hd
      subst hq
      obtain ⟨rfl, rfl⟩ := hd
      clear h
      go_enter Tryz.func78, Tryz.ntmps78
      go_wp2
      go_ret
      exact ⟨rfl, HH.out, Stay.refl _ _, rfl⟩

end

set_option maxRecDepth 100000 in
set_option maxHeartbeats 400000 in
theorem new_val (room : Int) (r : Int) (w : World) (hr : -9223372036854775808 ≤ room ∧ room < 9223372036854775808) (hm : max room 0 = r) :
    Calls Tryz.prog 19 #[.int .i64 room] w fun e w' => ∃ pd, e = .returned (.pointer (some ⟨pd, 0, none⟩)) ∧ DAt (fun k => w.heap.size ≤ k ∧ k < w'.heap.size) w' pd ⟨r, 0, false, []⟩ ∧ Below w.heap.size w w' := by
  have hmm := @run_makeMap Tryz.prog
  go_enter Tryz.func19, Tryz.ntmps19
  go_wp2
  go_ret
  have hr0 : 0 ≤ r ∧ r < 9223372036854775808 := by omega
  have e2 : Below w.heap.size w ((w.alloc (.map #[] 0)).alloc (.cells #[.int .i64 r, .map (some w.heap.size), .int .i64 0, .bool false] 94)) := ((Below.refl _ w).alloc (Nat.le_refl _) _).alloc (by simp) _
  refine ⟨_, rfl, ?_, e2⟩
  have hc : ∀ j, ((w.alloc (.map #[] 0)).alloc (.cells #[.int .i64 r, .map (some w.heap.size), .int .i64 0, .bool false] 94)).cell? ⟨w.heap.size + 1, j, none⟩ = #[.int .i64 r, .map (some w.heap.size), .int .i64 0, .bool false][j]? := fun j => by
    have h := World.cell?_alloc_new (w.alloc (.map #[] 0)) #[.int .i64 r, .map (some w.heap.size), .int .i64 0, .bool false] 94 j
    rwa [show (w.alloc (.map #[] 0)).heap.size = w.heap.size + 1 by simp] at h
  have hf : ∀ j, ((w.alloc (.map #[] 0)).alloc (.cells #[.int .i64 r, .map (some w.heap.size), .int .i64 0, .bool false] 94)).frozen? ⟨w.heap.size + 1, j, none⟩ = false := fun j => by
    have h := World.frozen?_alloc_new (w.alloc (.map #[] 0)) #[.int .i64 r, .map (some w.heap.size), .int .i64 0, .bool false] 94 j
    rwa [show (w.alloc (.map #[] 0)).heap.size = w.heap.size + 1 by simp] at h
  exact ⟨w.heap.size, fun _ => .bool false, fun _ => none, { lt := fun k hk => hk.2, oP := by simp, oB := by simp; omega, ne := by omega, c0 := hc 0, c1 := hc 1, c2 := hc 2, c3 := hc 3, f2 := hf 2, f3 := hf 3, own := (World.ownsMap_made w Tryz.prog 9 rv).alloc _, rise := List.Pairwise.nil, file := by simp, nP := by simp, apart := by simp, name := by simp, data := by simp, most := by simp, r0 := hr0, used := by simp [tot]; exact hr0.1, fu := by simp }⟩

theorem dmax {V : List UInt8 → Value} {S : FS} (h : S.length ≤ 20) : Maps.size (dm V S) ≤ maxLen ∧ Maps.size (dm V S) * 16 ≤ 140737488355328 := by
  rw [dm_size]; unfold maxLen; omega

section
variable {O : Nat → Prop} {w : World} {pd b : Nat} {V : List UInt8 → Value} {B : List UInt8 → Option Nat} {room fuse : Int} {down : Bool} {S : FS}

set_option maxRecDepth 100000 in
set_option maxHeartbeats 1000000 in
theorem names_val (h : DA O w pd b V B room fuse down S) :
    Calls Tryz.prog 63 #[.pointer (some ⟨pd, 0, none⟩)] w fun e w' => ∃ v, e = .returned v ∧ w'.ownsRow w.heap.size 9 1 v S.length ((S.map (·.1)).map encStr) ∧ (v = .slice none 0 0 ↔ S = []) ∧ Below w.heap.size w w' := by
  have c1 := h.c1
  have HH : Hid _ := h
  clear h
  refine (callsIn_wide (n := 6)).1 ?_
  have hfK : Fence.wide.fn 108 := trivial
  have hfS : Fence.wide.fn 107 := trivial
  refine callsIn_of_wp Tryz.func63 rfl trivial ?_ rfl
  simp only [Tryz.ntmps63, List.size_toArray, List.length_cons, List.length_nil, Nat.reduceAdd, Nat.reduceSub, Array.replicate_succ, Array.replicate_zero, List.push_toArray, List.append_toArray, List.nil_append, List.cons_append]
  gi_wp2_with (first
    | (gi_at_call 108; refine (mapsKeys _ _).mono ?_; rintro e w' ⟨rfl, rfl⟩)
    | (gi_at_call 107; refine (sortedKeys b S.length (dm V S) rv w HH.out.own (dmax HH.out.most).1 (dmax HH.out.most).2).mono ?_; rintro e w' ⟨v, ss, rfl, hS, hrow, hnil, hb⟩))
  go_ret
  rw [dm_keys] at hS
  have hl : ss.length = S.length := by rw [hS.length_eq, List.length_map]
  rw [names_sorted HH.out.rise hS, hl] at hrow
  refine ⟨v, rfl, ownsRow_base_a hrow (by simp), hnil.trans ⟨fun e => ?_, fun e => ?_⟩, ((Below.refl _ w).alloc (Nat.le_refl _) _).trans (hb.mono (by simp))⟩
  · rw [e] at hl; exact List.length_eq_zero_iff.1 hl.symm
  · rw [e] at hl; exact List.length_eq_zero_iff.1 hl

set_option maxRecDepth 100000 in
set_option maxHeartbeats 1000000 in
theorem stored_val (h : DA O w pd b V B room fuse down S) (q : Nat) (hq : tot S = q) :
    Calls Tryz.prog 117 #[.pointer (some ⟨pd, 0, none⟩)] w fun e w' => e = .returned (.int .i64 q) ∧ Below w.heap.size w w' := by
  have c1 := h.c1
  have hown := h.own
  have hq2 : q < 9223372036854775808 := by have := h.used; have := h.r0; omega
  have HH : Hid _ := h
  have HQ : Hid _ := hq
  clear h hq
  go_enter Tryz.func117, Tryz.ntmps117
  go_wp2_with (at_range; refine wpList_range_own _ rfl _ 92 rfl 9 115 lawK Tryz.underlying92 rv b _ _ rfl hown ?_; intro w0 hrg0 hg0 hs0)
  go_frame
  go_loopw [3] (fun c wr => ∃ left cnt, wr.ranges Tryz.prog 9 rv b w.heap.size S.length (dm V S) left cnt ∧ c = .int .i64 (part S left) ∧ Below w.heap.size w wr) (fun _ wr => wr.rangeLeft b w.heap.size)
  case atStart => exact ⟨_, _, hrg0, by rw [part_start]; rfl, hg0.os, hg0.tape, hg0.output, hg0.size, fun k hk => hg0.block k hk (by simp)⟩
  case round =>
    obtain ⟨left, cnt, hrg, rfl, hbel⟩ := hrel
    have hple : part S left < 9223372036854775808 := by have := part_le S left; rw [HQ.out] at this; omega
    go_wp2_with (at_next; refine wpList_next_ranges _ rfl _ rfl 9 lawK rv encStr mkV (invK_str Tryz.underlying9) invV_rv b w.heap.size _ _ left cnt rfl hrg ?_ ?_)
    · intro _ hl0
      have HP : Hid (part S left = q) := by rw [part_end S hl0]; exact HQ.out
      rw [HP.out]
      go_wp2
      go_ret
      exact ⟨rfl, hbel⟩
    · intro x c kl y1 y2 w1 cnt1 hkey hlx hv hat hrg1 hlt hg1 hs1 hen
      obtain ⟨f, hf, rfl, hcl⟩ := HH.out.entry (y := (y1, y2)) Tryz.underlying9 hkey hv hat
      have hst := part_step HH.out.rise hlx hf
      have hple2 := part_le S (fun z => left z && !z.sameKey (.string x))
      rw [hst, HQ.out] at hple2
      have HST : Hid _ := hst
      obtain ⟨c1', c2', c3', c4'⟩ := c
      obtain rfl : c2' = f.1.length := hcl
      have hrgl : Hid (∀ o, (w1.alloc o).rangeLeft b w.heap.size < wr.rangeLeft b w.heap.size) := fun o => by rw [(hrg1.alloc o).left_eq, hrg.left_eq]; exact hlt
      have hbel1 : Below w.heap.size w w1 := hbel.trans ⟨hg1.os, hg1.tape, hg1.output, hg1.size, fun k hk => hg1.block k (Nat.lt_of_lt_of_le hk hbel.size) (by simp; omega)⟩
      have HR1 : Hid (∀ o, (w1.alloc o).ranges Tryz.prog 9 rv b w.heap.size S.length (dm V S) (fun z => left z && !z.sameKey (.string x)) cnt1) := fun o => hrg1.alloc o
      have HB1 : Hid _ := hbel1
      clear hst hrg1 hbel1 hbel hrg hat hv hkey hlx hlt hg1 hs1 hf hown hrg0 hg0 hs0 c1
      unfold mkV at hen ⊢
      simp only at hen ⊢
      generalize f.1.length = n at *
      generalize part S left = p at *
      go_wp2
      go_roundw
      case rel => exact ⟨_, cnt1, HR1.out _, by rw [HST.out]; go_num, HB1.out.alloc (by have := HB1.out.size; omega) _⟩
      case measure => exact hrgl.out _

end

end Go.Proofs.YtfmhmokbbkliaaaGreat
