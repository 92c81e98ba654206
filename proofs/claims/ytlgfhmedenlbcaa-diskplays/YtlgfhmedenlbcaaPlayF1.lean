/- The contracts of tabulariumref04.Name, at, Bytes, blows, Fuse, New. -/
import Derived.Test.YtlgfhmedenlbcaaPlayM
import Derived.Test.YtlgfhmedenlbcaaRows
import Derived.WalkKit
import Derived.WalkSpells
import Derived.WalkLawsBesides
import Derived.Deep.RegionWith
import Derived.Deep.QuietTactic
import Derived.BigQuiet
import Derived.BigRegion
import Derived.Lib.QuietBelow
import Derived.Lib.MinMax
import Derived.OwnWalk
namespace Go.Proofs.Ytlgfhmedenlbcaa
open Go.RowKit

theorem ba_beq (a b : List UInt8) : ((ba a).toList == (ba b).toList) = decide (a = b) := by
  rw [ba_list, ba_list]
  by_cases h : a = b <;> simp [h]

theorem no_before {S : FS} {n : List UInt8} (h : ∀ j (hj : j < S.length), S[j].1 ≠ n) : fget S n = none :=
  fget_none_iff.2 (fun p hp => by obtain ⟨j, hj, rfl⟩ := List.getElem_of_mem hp; exact h j hj)

theorem cut_at (S : FS) (i : Nat) (h : i < S.length) : S = S.take i ++ S[i] :: S.drop (i + 1) := by
  rw [List.getElem_cons_drop, List.take_append_drop]

theorem tot_take_next (S : FS) (i : Nat) (h : i < S.length) : tot (S.take (i + 1)) = tot (S.take i) + S[i].2.1.length := by
  rw [List.take_succ_eq_append_getElem h, tot_append, tot_cons, tot_nil]; rfl
theorem tot_take_le (S : FS) (i : Nat) : tot (S.take i) ≤ tot S := by
  have := tot_append (S.take i) (S.drop i)
  rw [List.take_append_drop] at this
  omega

section
variable {O : Nat → Prop} {w : World} {p : Nat} {a : Option Addr} {c : Nat} {g : Option Nat} {ds : DS}

set_option maxRecDepth 100000 in
theorem refName_val (n : List UInt8) (v : Bool) (w : World) (hs : n.length ≤ maxLen) (hv : nameOk n = v) :
    Calls Try.prog 43 #[.string (ba n)] w fun e w' => e = .returned (.bool v) ∧ w' = w := by
  have hs2 : (ba n).size ≤ 9223372036854775807 := by rw [ba_size]; unfold maxLen at hs; omega
  unfold nameOk at hv
  rw [← ba_size] at hv
  have HV : Hid (decide (1 ≤ (ba n).size ∧ (ba n).size ≤ 30) = v) := hv
  clear hv hs
  generalize ba n = s at *
  by_cases h1 : 1 ≤ s.size
  · by_cases h2 : s.size ≤ 30
    · go_enter Try.func43, Try.ntmps43
      go_wp2
      go_ret
      refine ⟨?_, rfl⟩
      rw [← HV.out]; simp [h1, h2]; omega
    · go_enter Try.func43, Try.ntmps43
      go_wp2
      go_ret
      refine ⟨?_, rfl⟩
      rw [← HV.out]; simp [h1, h2]; omega
  · go_enter Try.func43, Try.ntmps43
    go_wp2
    go_ret
    refine ⟨?_, rfl⟩
    rw [← HV.out]; simp [h1]

set_option maxRecDepth 100000 in
set_option maxHeartbeats 1000000 in
theorem refAt_val (h : RAt O w p a c g ds) (hf : Fit ds) (n : List UInt8) :
    Calls Try.prog 42 #[.pointer (some ⟨p, 0, none⟩), .string (ba n)] w fun e w' => ∃ Z : Int, e = .returned (.int .i64 Z) ∧ w' = w ∧ ((Z = -1 ∧ fget ds.S n = none) ∨ ∃ i : Nat, ∃ hi : i < ds.S.length, Z = i ∧ ds.S[i].1 = n) := by
  have c1 := h.c1
  have hm := hf.most
  have hcap := h.cel.cap
  have hc1 := hcap.1
  have hc2 := hcap.2.1
  unfold maxLen at hc2
  have HR : Hid _ := h
  clear h hf hcap
  obtain ⟨N, hN⟩ : ∃ N, ds.S.length = N := ⟨_, rfl⟩
  have HN : Hid _ := hN
  rw [hN] at c1 hm hc1
  clear hN
  go_enter Try.func42, Try.ntmps42
  go_wp2
  go_loopw [5] (fun v wr => ∃ i : Nat, i ≤ N ∧ v = .int .i64 i ∧ wr = w ∧ ∀ j (hj : j < ds.S.length), j < i → ds.S[j].1 ≠ n) (fun v _ => N - (intOf v).toNat)
  case atStart => exact ⟨0, by omega, rfl, rfl, fun j _ h => by omega⟩
  case round =>
    obtain ⟨i, hi, rfl, hw, hno⟩ := hrel
    subst hw
    have HNO : Hid _ := hno
    clear hno
    by_cases hlt : i < N
    · have hi2 : i < ds.S.length := by rw [HN.out]; exact hlt
      obtain ⟨k, rfl, rfl, q0, q1, q2⟩ := HR.out.file hi2
      clear q1 q2
      by_cases he : ds.S[i].1 = n
      · have hb : ((ba ds.S[i].1).toList == (ba n).toList) = true := by rw [ba_beq]; exact decide_eq_true he
        generalize ba ds.S[i].1 = s1 at *
        generalize ba n = s2 at *
        go_wp2
        go_ret
        exact ⟨i, rfl, rfl, .inr ⟨i, hi2, rfl, he⟩⟩
      · have hb : ((ba ds.S[i].1).toList == (ba n).toList) = false := by rw [ba_beq]; exact decide_eq_false he
        have HE : Hid _ := he
        clear he
        generalize ba ds.S[i].1 = s1 at *
        generalize ba n = s2 at *
        go_wp2
        go_roundw
        case rel => exact ⟨i + 1, by omega, by go_num, by first | rfl | trivial, fun j hj h => by
          rcases Nat.lt_or_ge j i with e | e
          · exact HNO.out j hj e
          · obtain rfl : j = i := by omega
            exact HE.out⟩
        case measure => simp [intOf]; omega
    · obtain rfl : i = N := by omega
      clear hlt
      go_wp2
      go_ret
      exact ⟨-1, rfl, rfl, .inl ⟨rfl, no_before (fun j hj => HNO.out j hj (by rw [← HN.out]; exact hj))⟩⟩

set_option maxRecDepth 100000 in
set_option maxHeartbeats 1000000 in
theorem refBytes_val (h : RAt O w p a c g ds) (hf : Fit ds) (T : Nat) (hT : tot ds.S = T) :
    Calls Try.prog 36 #[.pointer (some ⟨p, 0, none⟩)] w fun e w' => e = .returned (.int .i64 (T : Int)) ∧ w' = w := by
  have c1 := h.c1
  have hm := hf.most
  have hcap := h.cel.cap
  have hc1 := hcap.1
  have hc2 := hcap.2.1
  unfold maxLen at hc2
  have h8 := hf.tot8
  rw [hT] at h8
  have HR : Hid _ := h
  have HT : Hid _ := hT
  clear h hf hcap hT
  obtain ⟨N, hN⟩ : ∃ N, ds.S.length = N := ⟨_, rfl⟩
  have HN : Hid _ := hN
  rw [hN] at c1 hm hc1
  clear hN
  go_enter Try.func36, Try.ntmps36
  go_wp2
  go_loopw [3, 4] (fun vt v wr => ∃ i t : Nat, i ≤ N ∧ v = .int .i64 i ∧ vt = .int .i64 t ∧ wr = w ∧ tot (ds.S.take i) = t) (fun _ v _ => N - (intOf v).toNat)
  case atStart => exact ⟨0, 0, by omega, rfl, rfl, rfl, by simp [tot]⟩
  case round =>
    obtain ⟨i, t, hi, rfl, rfl, hw, ht⟩ := hrel
    subst hw
    have htT : t ≤ T := by rw [← ht, ← HT.out]; exact tot_take_le _ _
    by_cases hlt : i < N
    · have hi2 : i < ds.S.length := by rw [HN.out]; exact hlt
      obtain ⟨k, rfl, rfl, q0, q1, q2⟩ := HR.out.file hi2
      obtain ⟨L, hL⟩ : ∃ L, (ba ds.S[i].2.1).size = L := ⟨_, rfl⟩
      have ht2 : tot (ds.S.take (i + 1)) = t + L := by rw [tot_take_next _ _ hi2, ht, ← hL, ba_size]
      have HT2 : Hid _ := ht2
      have hLT : t + L ≤ T := by rw [← HT2.out, ← HT.out]; exact tot_take_le _ _
      clear q0 q2 ht ht2
      generalize ba ds.S[i].2.1 = s1 at *
      go_wp2
      go_roundw
      case rel => exact ⟨i + 1, t + L, by omega, by go_num, by first | rfl | go_num, by first | rfl | trivial, HT2.out⟩
      case measure => simp [intOf]; omega
    · obtain rfl : i = N := by omega
      obtain rfl : t = T := by rw [← ht, ← HT.out, List.take_of_length_le (by rw [HN.out]; omega)]
      clear hlt ht
      go_wp2
      go_ret
      exact ⟨rfl, rfl⟩

set_option maxRecDepth 100000 in
set_option maxHeartbeats 1000000 in
theorem refBlows_val {room fuse : Int} {S : FS} (h : RAt O w p a c g ⟨room, fuse, false, S⟩) (hf : Fit ⟨room, fuse, false, S⟩) (v : Bool) (hv : decide (begE ⟨room, fuse, false, S⟩ 0 = 12) = v) :
    Calls Try.prog 44 #[.pointer (some ⟨p, 0, none⟩)] w fun e w' => e = .returned (.bool v) ∧ RAt O w' p a c g (begD ⟨room, fuse, false, S⟩ 0) ∧ Stay O w w' := by
  have c2 : w.cell? ⟨p, 2, none⟩ = some (.int .i64 fuse) := h.c2
  have c3 : w.cell? ⟨p, 3, none⟩ = some (.bool false) := h.c3
  have f2 := h.f2
  have f3 := h.f3
  have hfu : 0 ≤ fuse ∧ fuse < 9223372036854775808 := hf.fu
  obtain ⟨hfu1, hfu2⟩ := hfu
  by_cases h0 : fuse = 0
  · have ev : v = false := by rw [← hv]; simp [begE, h0]
    have eD : begD ⟨room, fuse, false, S⟩ 0 = ⟨room, fuse, false, S⟩ := by unfold begD; simp [h0]
    rw [eD]
    subst h0 ev
    have HR : Hid _ := h
    clear h hv hf eD
    go_enter Try.func44, Try.ntmps44
    go_wp2
    go_ret
    exact ⟨rfl, HR.out, Stay.refl _ _⟩
  · have hS : Hid (∀ x y, Stay O w ((w.setCell ⟨p, 2, none⟩ x).setCell ⟨p, 3, none⟩ y)) := fun x y => (Stay.setCell w ⟨p, 2, none⟩ x h.oP).then_same (Stay.setCell _ ⟨p, 3, none⟩ y h.oP)
    have h3 := h.setFuse (fuse - 1)
    have c2' := h3.c2
    have c3' := h3.c3
    have f3' := h3.f3
    by_cases h1 : fuse = 1
    · have ev : v = true := by rw [← hv]; simp [begE, h1]
      have eD : begD ⟨room, fuse, false, S⟩ 0 = ⟨room, 0, true, S⟩ := by unfold begD; simp [h1]
      rw [eD]
      subst h1 ev
      have HR : Hid _ := h3.setDown true
      have c4 := (h3.setDown true).c3
      simp at c2' c3' c4 f3' HR
      clear h hv hf eD h3
      go_enter Try.func44, Try.ntmps44
      go_wp2
      go_ret
      exact ⟨rfl, HR.out, hS.out _ _⟩
    · have ev : v = false := by rw [← hv]; simp [begE, h0, h1]
      have eD : begD ⟨room, fuse, false, S⟩ 0 = ⟨room, fuse - 1, false, S⟩ := by unfold begD; simp [h0, h1]
      rw [eD]
      subst ev
      have HR : Hid _ := h3.setDown false
      have c4 := (h3.setDown false).c3
      have hne : ((fuse - 1 : Int) == 0) = false := by simp; omega
      clear h hv hf eD h3
      go_enter Try.func44, Try.ntmps44
      go_wp2
      go_ret
      exact ⟨rfl, HR.out, hS.out _ _⟩

set_option maxRecDepth 100000 in
theorem refFuse_val (h : RAt O w p a c g ds) (n f : Int) (hn : -9223372036854775808 ≤ n ∧ n < 9223372036854775808) (hf : max n 0 = f) :
    Calls Try.prog 31 #[.pointer (some ⟨p, 0, none⟩), .int .i64 n] w fun e w' => e = .returned (.tuple #[]) ∧ RAt O w' p a c g { ds with fuse := f } ∧ Stay O w w' := by
  have c2 := h.c2
  have f2 := h.f2
  have HR : Hid _ := h.setFuse f
  have hS : Hid (Stay O w (w.setCell ⟨p, 2, none⟩ (.int .i64 f))) := Stay.setCell w ⟨p, 2, none⟩ _ h.oP
  obtain ⟨hn1, hn2⟩ := hn
  clear h
  go_enter Try.func31, Try.ntmps31
  go_wp2
  go_end0
  exact ⟨rfl, HR.out, hS.out⟩

end

set_option maxRecDepth 100000 in
theorem refNew_val (room r : Int) (w : World) (hr : -9223372036854775808 ≤ room ∧ room < 9223372036854775808) (hm : max room 0 = r) :
    Calls Try.prog 11 #[.int .i64 room] w fun e w' => ∃ p, e = .returned (.pointer (some ⟨p, 0, none⟩)) ∧ RAt (fun k => w.heap.size ≤ k ∧ k < w'.heap.size) w' p none 0 none ⟨r, 0, false, []⟩ ∧ Below w.heap.size w w' := by
  obtain ⟨hr1, hr2⟩ := hr
  go_enter Try.func11, Try.ntmps11
  go_wp2
  go_ret
  refine ⟨w.heap.size, rfl, ⟨fun k hk => hk.2, ⟨Nat.le_refl _, by simp⟩, World.cell?_alloc_new w _ _ 0, World.cell?_alloc_new w _ _ 1, World.cell?_alloc_new w _ _ 2, World.cell?_alloc_new w _ _ 3, World.frozen?_alloc_new w _ _ 1, World.frozen?_alloc_new w _ _ 2, World.frozen?_alloc_new w _ _ 3, .nil rfl rfl rfl, by simp⟩, (Below.refl _ w).alloc (Nat.le_refl _) _⟩

end Go.Proofs.Ytlgfhmedenlbcaa
