/- Part 25 of the proof: PlayF1, PlayF2. -/
import Derived.Test.YtfmhmokbbkliaaaGreatB24
import Derived.BigQuiet
import Derived.BigRegion
import Derived.Deep.QuietTactic
import Derived.Deep.RegionWith
import Derived.Lib.MinMax
import Derived.Lib.QuietBelow
import Derived.OwnWalk
import Derived.Test.YtfmhmokbbkliaaaGreatRows
import Derived.WalkKit
import Derived.WalkLawsBesides
import Derived.WalkSpells

/- The contracts of tabulariumref04.Name, at, Bytes, blows, Fuse, New. -/
namespace Go.Proofs.YtfmhmokbbkliaaaGreat
open Go.RowKit

theorem ba_beq (a b : List UInt8) : ((ba a).toList == (ba b).toList) = decide (a = b) := by
  rw [ba_list, ba_list]
  by_cases h : a = b <;> simp [h]

theorem no_before {S : FS} {n : List UInt8} (h : ∀ j (hj : j < S.length), S[j].1 ≠ n) : fget S n = none :=
  fget_none_iff.2 (fun p hp => by obtain ⟨j, hj, rfl⟩ := List.getElem_of_mem hp; exact h j hj)

theorem cut_at (S : FS) (i : Nat) (h : i < S.length) : S = S.take i ++ S[i] :: S.drop (i + 1) := by
  rw [List.getElem_cons_drop, List.take_append_drop]

theorem tot_take_next (S : FS) (i : Nat) (h : i < S.length) : tot (S.take (i + 1)) = tot (S.take i) + S[i].2.1.length := by
  rw [List.take_succ_eq_append_getElem h, tot_append, tot_cons, tot_nil]; rfl
theorem tot_take_le (S : FS) (i : Nat) : tot (S.take i) ≤ tot S := by
  have := tot_append (S.take i) (S.drop i)
  rw [List.take_append_drop] at this
  omega

section
variable {O : Nat → Prop} {w : World} {p : Nat} {a : Option Addr} {c : Nat} {g : Option Nat} {ds : DS}

set_option maxRecDepth 100000 in
theorem refName_val (n : List UInt8) (v : Bool) (w : World) (hs : n.length ≤ maxLen) (hv : nameOk n = v) :
    Calls Tryz.prog 81 #[.string (ba n)] w fun e w' => e = .returned (.bool v) ∧ w' = w := by
  have hs2 : (ba n).size ≤ 9223372036854775807 := by rw [ba_size]; unfold maxLen at hs; omega
  unfold nameOk at hv
  rw [← ba_size] at hv
  have HV : Hid (decide (1 ≤ (ba n).size ∧ (ba n).size ≤ 30) = v) := hv
  clear hv hs
  generalize ba n = s at *
  by_cases h1 : 1 ≤ s.size
  · by_cases h2 : s.size ≤ 30
    · go_enter Tryz.func81, Tryz.ntmps81
      go_wp2
      go_ret
      refine ⟨?_, rfl⟩
      rw [← HV.out]; simp [h1, h2]; omega
    · go_enter Tryz.func81, Tryz.ntmps81
      go_wp2
      go_ret
      refine ⟨?_, rfl⟩
      rw [← HV.out]; simp [h1, h2]; omega
  · go_enter Tryz.func81, Tryz.ntmps81
    go_wp2
    go_ret
    refine ⟨?_, rfl⟩
    rw [← HV.out]; simp [h1]

set_option maxRecDepth 100000 in
set_option maxHeartbeats 1000000 in
theorem refAt_val (h : RAt O w p a c g ds) (hf : Fit ds) (n : List UInt8) :
    Calls Tryz.prog 80 #[.pointer (some ⟨p, 0, none⟩), .string (ba n)] w fun e w' => ∃ Z : Int, e = .returned (.int .i64 Z) ∧ w' = w ∧ ((Z = -1 ∧ fget ds.S n = none) ∨ ∃ i : Nat, ∃ hi : i < ds.S.length, Z = i ∧ ds.S[i].1 = n) := by
  have c1 := h.c1
  have hm := hf.most
  have hcap := h.cel.cap
  have hc1 := hcap.1
  have hc2 := hcap.2.1
  unfold maxLen at hc2
  have HR : Hid _ := h
  clear h hf hcap
  obtain ⟨N, hN⟩ : ∃ N, ds.S.length = N := ⟨_, rfl⟩
  have HN : Hid _ := hN
  rw [hN] at c1 hm hc1
  clear hN
  go_enter Tryz.func80, Tryz.ntmps80
  go_wp2
  go_loopw [5] (fun v wr => ∃ i : Nat, i ≤ N ∧ v = .int .i64 i ∧ wr = w ∧ ∀ j (hj : j < ds.S.length), j < i → ds.S[j].1 ≠ n) (fun v _ => N - (intOf v).toNat)
  case atStart => exact ⟨0, by omega, rfl, rfl, fun j _ h => by omega⟩
  case round =>
    obtain ⟨i, hi, rfl, hw, hno⟩ := hrel
    subst hw
    have HNO : Hid _ := hno
    clear hno
    by_cases hlt : i < N
    · have hi2 : i < ds.S.length := by rw [HN.out]; exact hlt
      obtain ⟨k, rfl, rfl, q0, q1, q2⟩ := HR.out.file hi2
      clear q1 q2
      by_cases he : ds.S[i].1 = n
      · have hb : ((ba ds.S[i].1).toList == (ba n).toList) = true := by rw [ba_beq]; exact decide_eq_true he
        generalize ba ds.S[i].1 = s1 at *
        generalize ba n = s2 at *
        go_wp2
        go_ret
        exact ⟨i, rfl, rfl, .inr ⟨i, hi2, rfl, he⟩⟩
      · have hb : ((ba ds.S[i].1).toList == (ba n).toList) = false := by rw [ba_beq]; exact decide_eq_false he
        have HE : Hid _ := he
        clear he
        generalize ba ds.S[i].1 = s1 at *
        generalize ba n = s2 at *
        go_wp2
        go_roundw
        case rel => exact ⟨i + 1, by omega, by go_num, by first | rfl | trivial, fun j hj h => by
          rcases Nat.lt_or_ge j i with e | e
          · exact HNO.out j hj e
          · obtain rfl : j = i := by omega
            exact HE.out⟩
        case measure => simp [intOf]; omega
    · obtain rfl : i = N := by omega
      clear hlt
      go_wp2
      go_ret
      exact ⟨-1, rfl, rfl, .inl ⟨rfl, no_before (fun j hj => HNO.out j hj (by rw [← HN.out]; exact hj))⟩⟩

set_option maxRecDepth 100000 in
set_option maxHeartbeats 1000000 in
theorem refBytes_val (h : RAt O w p a c g ds) (hf : Fit ds) (T : Nat) (hT : tot ds.S = T) :
    Calls Tryz.prog 82 #[.pointer (some ⟨p, 0, none⟩)] w fun e w' => e = .returned (.int .i64 (T : Int)) ∧ w' = w := by
  have c1 := h.c1
  have hm := hf.most
  have hcap := h.cel.cap
  have hc1 := hcap.1
  have hc2 := hcap.2.1
  unfold maxLen at hc2
  have h8 := hf.tot8
  rw [hT] at h8
  have HR : Hid _ := h
  have HT : Hid _ := hT
  clear h hf hcap hT
  obtain ⟨N, hN⟩ : ∃ N, ds.S.length = N := ⟨_, rfl⟩
  have HN : Hid _ := hN
  rw [hN] at c1 hm hc1
  clear hN
  go_enter Tryz.func82, Tryz.ntmps82
  go_wp2
  go_loopw [3, 4] (fun vt v wr => ∃ i t : Nat, i ≤ N ∧ v = .int .i64 i ∧ vt = .int .i64 t ∧ wr = w ∧ tot (ds.S.take i) = t) (fun _ v _ => N - (intOf v).toNat)
  case atStart => exact ⟨0, 0, by omega, rfl, rfl, rfl, by simp [tot]⟩
  case round =>
    obtain ⟨i, t, hi, rfl, rfl, hw, ht⟩ := hrel
    subst hw
    have htT : t ≤ T := by rw [← ht, ← HT.out]; exact tot_take_le _ _
    by_cases hlt : i < N
    · have hi2 : i < ds.S.length := by rw [HN.out]; exact hlt
      obtain ⟨k, rfl, rfl, q0, q1, q2⟩ := HR.out.file hi2
      obtain ⟨L, hL⟩ : ∃ L, (ba ds.S[i].2.1).size = L := ⟨_, rfl⟩
      have ht2 : tot (ds.S.take (i + 1)) = t + L := by rw [tot_take_next _ _ hi2, ht, ← hL, ba_size]
      have HT2 : Hid _ := ht2
      have hLT : t + L ≤ T := by rw [← HT2.out, ← HT.out]; exact tot_take_le _ _
      clear q0 q2 ht ht2
      generalize ba ds.S[i].2.1 = s1 at *
      go_wp2
      go_roundw
      case rel => exact ⟨i + 1, t + L, by omega, by go_num, by first | rfl | go_num, by first | rfl | trivial, HT2.out⟩
      case measure => simp [intOf]; omega
    · obtain rfl : i = N := by omega
      obtain rfl : t = T := by rw [← ht, ← HT.out, List.take_of_length_le (by rw [HN.out]; omega)]
      clear hlt ht
      go_wp2
      go_ret
      exact ⟨rfl, rfl⟩

set_option maxRecDepth 100000 in
set_option maxHeartbeats 1000000 in
theorem refBlows_val {room fuse : Int} {S : FS} (h : RAt O w p a c g ⟨room, fuse, false, S⟩) (hf : Fit ⟨room, fuse, false, S⟩) (v : Bool) (hv : decide (begE ⟨room, fuse, false, S⟩ 0 = 12) = v) :
    Calls Tryz.prog 83 #[.pointer (some ⟨p, 0, none⟩)] w fun e w' => e = .returned (.bool v) ∧ RAt O w' p a c g (begD ⟨room, fuse, false, S⟩ 0) ∧ Stay O w w' := by
  have c2 : w.cell? ⟨p, 2, none⟩ = some (.int .i64 fuse) := h.c2
  have c3 : w.cell? ⟨p, 3, none⟩ = some (.bool false) := h.c3
  have f2 := h.f2
  have f3 := h.f3
  have hfu : 0 ≤ fuse ∧ fuse < 9223372036854775808 := hf.fu
  obtain ⟨hfu1, hfu2⟩ := hfu
  by_cases h0 : fuse = 0
  · have ev : v = false := by rw [← hv]; simp [begE, h0]
    have eD : begD ⟨room, fuse, false, S⟩ 0 = ⟨room, fuse, false, S⟩ := by unfold begD; simp [h0]
    rw [eD]
    subst h0 ev
    have HR : Hid _ := h
    clear h hv hf eD
    go_enter Tryz.func83, Tryz.ntmps83
    go_wp2
    go_ret
    exact ⟨rfl, HR.out, Stay.refl _ _⟩
  · have hS : Hid (∀ x y, Stay O w ((w.setCell ⟨p, 2, none⟩ x).setCell ⟨p, 3, none⟩ y)) := fun x y => (Stay.setCell w ⟨p, 2, none⟩ x h.oP).then_same (Stay.setCell _ ⟨p, 3, none⟩ y h.oP)
    have h3 := h.setFuse (fuse - 1)
    have c2' := h3.c2
    have c3' := h3.c3
    have f3' := h3.f3
    by_cases h1 : fuse = 1
    · have ev : v = true := by rw [← hv]; simp [begE, h1]
      have eD : begD ⟨room, fuse, false, S⟩ 0 = ⟨room, 0, true, S⟩ := by unfold begD; simp [h1]
      rw [eD]
      subst h1 ev
      have HR : Hid _ := h3.setDown true
      have c4 := (h3.setDown true).c3
      simp at c2' c3' c4 f3' HR
      clear h hv hf eD h3
      go_enter Tryz.func83, Tryz.ntmps83
      go_wp2
      go_ret
      exact ⟨rfl, HR.out, hS.out _ _⟩
    · have ev : v = false := by rw [← hv]; simp [begE, h0, h1]
      have eD : begD ⟨room, fuse, false, S⟩ 0 = ⟨room, fuse - 1, false, S⟩ := by unfold begD; simp [h0, h1]
      rw [eD]
      subst ev
      have HR : Hid _ := h3.setDown false
      have c4 := (h3.setDown false).c3
      have hne : ((fuse - 1 : Int) == 0) = false := by simp; omega
      clear h hv hf eD h3
      go_enter Tryz.func83, Tryz.ntmps83
      go_wp2
      go_ret
      exact ⟨rfl, HR.out, hS.out _ _⟩

set_option maxRecDepth 100000 in
theorem refFuse_val (h : RAt O w p a c g ds) (n f : Int) (hn : -9223372036854775808 ≤ n ∧ n < 9223372036854775808) (hf : max n 0 = f) :
    Calls Tryz.prog 25 #[.pointer (some ⟨p, 0, none⟩), .int .i64 n] w fun e w' => e = .returned (.tuple #[]) ∧ RAt O w' p a c g { ds with fuse := f } ∧ Stay O w w' := by
  have c2 := h.c2
  have f2 := h.f2
  have HR : Hid _ := h.setFuse f
  have hS : Hid (Stay O w (w.setCell ⟨p, 2, none⟩ (.int .i64 f))) := Stay.setCell w ⟨p, 2, none⟩ _ h.oP
  obtain ⟨hn1, hn2⟩ := hn
  clear h
  go_enter Tryz.func25, Tryz.ntmps25
  go_wp2
  go_end0
  exact ⟨rfl, HR.out, hS.out⟩

end

set_option maxRecDepth 100000 in
theorem refNew_val (room r : Int) (w : World) (hr : -9223372036854775808 ≤ room ∧ room < 9223372036854775808) (hm : max room 0 = r) :
    Calls Tryz.prog 20 #[.int .i64 room] w fun e w' => ∃ p, e = .returned (.pointer (some ⟨p, 0, none⟩)) ∧ RAt (fun k => w.heap.size ≤ k ∧ k < w'.heap.size) w' p none 0 none ⟨r, 0, false, []⟩ ∧ Below w.heap.size w w' := by
  obtain ⟨hr1, hr2⟩ := hr
  go_enter Tryz.func20, Tryz.ntmps20
  go_wp2
  go_ret
  refine ⟨w.heap.size, rfl, ⟨fun k hk => hk.2, ⟨Nat.le_refl _, by simp⟩, World.cell?_alloc_new w _ _ 0, World.cell?_alloc_new w _ _ 1, World.cell?_alloc_new w _ _ 2, World.cell?_alloc_new w _ _ 3, World.frozen?_alloc_new w _ _ 1, World.frozen?_alloc_new w _ _ 2, World.frozen?_alloc_new w _ _ 3, .nil rfl rfl rfl, by simp⟩, (Below.refl _ w).alloc (Nat.le_refl _) _⟩

end Go.Proofs.YtfmhmokbbkliaaaGreat

/- The contracts of tabulariumref04.out, put. -/
namespace Go.Proofs.YtfmhmokbbkliaaaGreat
open Go.RowKit

theorem fileRow : ∃ i, Tryz.prog.info? 118 = some i ∧ i.zero = some (.agg #[.string ⟨#[]⟩, .string ⟨#[]⟩, .int .i64 0]) ∧ i.size = 3 ∧ i.bytes = 40 :=
  info_parts (show (Tryz.prog.info? 118).map (fun i => (i.zero, i.size, i.bytes)) = some (some (.agg #[.string ⟨#[]⟩, .string ⟨#[]⟩, .int .i64 0]), 3, 40) by kernel_rfl)

theorem Cel.lowG {B : Nat} {w w' : World} {size : Nat} {sl : Value} {n : Nat} {cs : List Value} {g : Option Nat} (hB : B ≤ w.heap.size) (h : Cel (Grow (fun k => B ≤ k) w w') w' size sl n cs g) : Cel (fun k => B ≤ k) w' size sl n cs g :=
  h.stay (Nat.le_refl _) (fun _ _ => rfl) (fun _ hk => hk.elim id (fun e => Nat.le_trans hB e.1))

theorem stayB {w w' : World} (h : Stay (fun k => (none : Option Nat) = some k) w w') : Below w.heap.size w w' := ⟨h.os, h.tape, h.output, h.size, fun _ hk => h.block _ hk (fun e => nomatch e)⟩

/-- The first k files, as what is appended. -/
theorem src_first {O : Nat → Prop} {w : World} {a : Option Addr} {n c : Nat} {S : FS} {g : Option Nat} (h : Cel O w 3 (.slice a n c) n (filCs S) g) (k : Nat) (hk : k ≤ n) : Src Tryz.prog 3 95 (.slice a k c) k (filCs (S.take k)) w := by
  have hl := h.len
  rw [filCs_len] at hl
  cases h with
  | nil h1 h2 h3 =>
    cases h1
    obtain rfl : k = 0 := by omega
    exact Src.ofNil w Tryz.underlying95 0
  | row g cap h1 hl2 h2 h3 h4 h5 h6 h7 =>
    cases h1
    refine Src.ofSlice w Tryz.underlying95 ⟨g, 0, none⟩ k _ (filCs (S.take k)) (by rw [filCs_len, List.length_take]; omega) (fun j u hu => ?_) (filCs_oneCell _)
    rw [Addr.add_lit, Nat.zero_add]
    obtain ⟨hj1, hj2⟩ := List.getElem?_eq_some_iff.1 hu
    have e : filCs S = filCs (S.take k) ++ filCs (S.drop k) := by rw [← filCs_app, List.take_append_drop]
    have hj3 : j < (filCs S).length := by rw [e, List.length_append]; omega
    rw [h6 j hj3, ← hj2]
    congr 1
    rw [List.getElem_of_eq e hj3, List.getElem_append_left hj1]

/-- The others. -/
theorem src_last {O : Nat → Prop} {w : World} {g n c : Nat} {S : FS} (h : Cel O w 3 (.slice (some ⟨g, 0, none⟩) n c) n (filCs S) (some g)) (k m c2 : Nat) (hk : k + m = n) : Src Tryz.prog 3 95 (.slice (if c = k then some ⟨g, 0, none⟩ else some ⟨g, k * 3, none⟩) m c2) m (filCs (S.drop k)) w := by
  have hl := h.len
  have hcap := h.cap.1
  rw [filCs_len] at hl
  by_cases e : c = k
  · rw [if_pos e]
    obtain rfl : m = 0 := by omega
    rw [List.drop_of_length_le (by omega)]
    exact Src.ofSlice w Tryz.underlying95 ⟨g, 0, none⟩ 0 _ [] rfl (fun j u hu => by simp at hu) (fun u hu => by cases hu)
  · rw [if_neg e]
    refine Src.ofSlice w Tryz.underlying95 ⟨g, k * 3, none⟩ m _ (filCs (S.drop k)) (by rw [filCs_len, List.length_drop]; omega) (fun j u hu => ?_) (filCs_oneCell _)
    rw [Addr.add_lit]
    obtain ⟨hj1, hj2⟩ := List.getElem?_eq_some_iff.1 hu
    have e : filCs S = filCs (S.take k) ++ filCs (S.drop k) := by rw [← filCs_app, List.take_append_drop]
    have hk3 : (filCs (S.take k)).length = k * 3 := by rw [filCs_len, List.length_take]; congr 1; omega
    have hj3 : k * 3 + j < (filCs S).length := by rw [e, List.length_append, hk3]; omega
    rw [h.cell (k * 3 + j) hj3, ← hj2]
    congr 1
    rw [List.getElem_of_eq e hj3, List.getElem_append_right (by omega)]
    simp only [hk3, Nat.add_sub_cancel_left]

theorem src_lastN {O : Nat → Prop} {w : World} {g n c : Nat} {S : FS} (h : Cel O w 3 (.slice (some ⟨g, 0, none⟩) n c) n (filCs S) (some g)) (k m c2 : Nat) (hk : k + m = n) (hne : c ≠ k) : Src Tryz.prog 3 95 (.slice (some ⟨g, k * 3, none⟩) m c2) m (filCs (S.drop k)) w := by
  have := src_last h k m c2 hk
  rwa [if_neg hne] at this

section
variable {O : Nat → Prop} {w : World} {p : Nat} {a : Option Addr} {c : Nat} {g : Option Nat} {ds : DS}

theorem RAt.filed (h : RAt O w p a c g ds) {w2 : World} {a' : Option Addr} {c' n' : Nat} {g' : Option Nat} {S' : FS} (hb : Below w.heap.size w w2) (hn : S'.length = n') (hc : Cel (fun k => w.heap.size ≤ k) w2 3 (.slice a' n' c') n' (filCs S') g') :
    (∃ a3 c3 g3, RAt (Grow O w (w2.setCell ⟨p, 1, none⟩ (.slice a' n' c'))) (w2.setCell ⟨p, 1, none⟩ (.slice a' n' c')) p a3 c3 g3 { ds with S := S' }) ∧ Stay O w (w2.setCell ⟨p, 1, none⟩ (.slice a' n' c')) :=
  ⟨⟨a', c', g', h.setFiles (Stay.of_below hb) hn hc⟩, (Stay.of_below hb : Stay O w w2).then_same (Stay.setCell w2 ⟨p, 1, none⟩ _ h.oP)⟩

theorem src_oneF (w : World) (x : Fl) : Src Tryz.prog 3 95 (.slice (some ⟨w.heap.size, 0, none⟩) 1 1) 1 (filC x) (w.alloc (.cells #[.string (ba x.1), .string (ba x.2.1), .int .i64 (x.2.2 : Int)] 118)) :=
  Src.ofSlice _ Tryz.underlying95 ⟨w.heap.size, 0, none⟩ 1 1 (filC x) rfl (fun j u hu => by
    obtain ⟨hj1, hj2⟩ := List.getElem?_eq_some_iff.1 hu
    rw [Addr.add_lit, Nat.zero_add]
    have hj3 : j < 3 := hj1
    have hj : j = 0 ∨ j = 1 ∨ j = 2 := by omega
    rcases hj with rfl | rfl | rfl
    · rw [← hj2]; exact World.cell?_alloc_new w _ _ 0
    · rw [← hj2]; exact World.cell?_alloc_new w _ _ 1
    · rw [← hj2]; exact World.cell?_alloc_new w _ _ 2) (fun u hu => filCs_oneCell [x] u (by rw [filCs_one]; exact hu))

/-- The files stay while another row grows. -/
theorem cel_keeps {W w1 w2 : World} {sl : Value} {n : Nat} {cs : List Value} {g1 : Option Nat} {x : Fl} (hC : Cel O W 3 sl n cs g) (hb1 : Below W.heap.size W w1) (hf1 : ∀ k, g1 = some k → (none : Option Nat) = some k ∨ W.heap.size ≤ k)
    (hst2 : Stay (fun k => g1 = some k) (w1.alloc (.cells #[.string (ba x.1), .string (ba x.2.1), .int .i64 (x.2.2 : Int)] 118)) w2) : Cel O w2 3 sl n cs g := by
  have h1 := hC.below hb1
  have h2 := h1.below ((Below.refl _ w1).alloc (Nat.le_refl _) (.cells #[.string (ba x.1), .string (ba x.2.1), .int .i64 (x.2.2 : Int)] 118))
  refine h2.stay hst2.size (fun k hk => hst2.block k (by rw [hk] at h2; exact h2.lt.1) (fun e => ?_)) (fun _ e => e)
  rw [hk] at hC
  have := hC.lt.1
  rcases hf1 _ e with e | e
  · cases e
  · omega

theorem less_eqP : ∀ a b : List UInt8, Op.bytesLess a b = bytesBefore a b
  | [], [] => rfl
  | [], _ :: _ => rfl
  | _ :: _, [] => rfl
  | x :: r, y :: s => by
    have := less_eqP r s
    simp only [Op.bytesLess, bytesBefore, this]

theorem fins_here {S : FS} (hS : Rise S) {x : Fl} (hx : fget S x.1 = none) (i : Nat) (h1 : ∀ j (hj : j < S.length), j < i → bytesBefore S[j].1 x.1 = true) (h2 : ∀ hi : i < S.length, bytesBefore S[i].1 x.1 = false) : fins x S = S.take i ++ x :: S.drop i := by
  have hn := fget_none_iff.1 hx
  have e := fins_mid (x := x) (A := S.take i) (B := S.drop i) (fun q hq => ?_) (fun q hq => ?_)
  · rwa [List.take_append_drop] at e
  · obtain ⟨j, hj, rfl⟩ := List.getElem_of_mem hq
    rw [List.length_drop] at hj
    rw [List.getElem_drop]
    have hi : i < S.length := by omega
    have a1 : bytesBefore x.1 S[i].1 = true := by
      rcases WideAt.bytes_total x.1 S[i].1 (fun e => hn _ (List.getElem_mem hi) e.symm) with h | h
      · exact h
      · rw [h2 hi] at h; cases h
    rcases Nat.eq_zero_or_pos j with rfl | hp
    · exact a1
    · exact WideShapes.bytes_trans _ _ _ a1 (List.pairwise_iff_getElem.1 hS i (i + j) hi (by omega) (by omega))
  · obtain ⟨j, hj, rfl⟩ := List.getElem_of_mem hq
    rw [List.length_take] at hj
    rw [List.getElem_take]
    exact h1 j (by omega) (by omega)

set_option maxRecDepth 100000 in
set_option maxHeartbeats 1000000 in
theorem refOut_val (h : RAt O w p a c g ds) (hf : Fit ds) (i : Nat) (hi : i < ds.S.length) :
    Calls Tryz.prog 159 #[.pointer (some ⟨p, 0, none⟩), .int .i64 i] w fun e w' => e = .returned (.tuple #[]) ∧ (∃ a' c' g', RAt (Grow O w w') w' p a' c' g' { ds with S := ds.S.take i ++ ds.S.drop (i + 1) }) ∧ Stay O w w' := by
  obtain ⟨ti, hi1, hi2, hi3, hi4⟩ := fileRow
  obtain ⟨k, rfl, rfl, _⟩ := h.file hi
  have c1 := h.c1
  have f1 := h.f1
  have hm := hf.most
  have hcap := h.cel.cap
  have hc1 := hcap.1
  have hc2 := hcap.2.1
  unfold maxLen at hc2
  have HR : Hid _ := h
  have hC := h.cel
  have hpw := h.lt p h.oP
  clear h hf hcap
  obtain ⟨N, hN⟩ : ∃ N, ds.S.length = N := ⟨_, rfl⟩
  have HN : Hid _ := hN
  rw [hN] at c1 hm hc1 hi hC
  clear hN
  go_enter Tryz.func159, Tryz.ntmps159
  go_wp2_with (first
    | (at_builtin; refine wpList_append_cel _ rfl _ _ 95 95 rfl 118 ti _ 3 40 Tryz.underlying95 hi1 hi2 hi3 hi4 rfl (O := fun k => w.heap.size ≤ k) _ i _ g1 rfl hC1' _ (N - (i + 1)) (filCs (ds.S.drop (i + 1))) rfl (src_last hCo (i + 1) (N - (i + 1)) _ (by omega)) (by unfold maxLen; omega) (by omega) ?_; intro a2 cc2 w2 g2 hC2 hst2 hf2; have hb2 := hst2.below (B := w.heap.size) hw1 (fun k hk => by rcases hf1 k hk with e | e; exact nomatch e; exact e); have c1'' := (hb2.cell (p := ⟨p, 1, none⟩) hpw).trans c1'; have f1'' := (hb2.frozen (p := ⟨p, 1, none⟩) hpw).trans f1')
    | (at_builtin; refine wpList_append_cel _ rfl _ _ 95 95 rfl 118 ti _ 3 40 Tryz.underlying95 hi1 hi2 hi3 hi4 rfl (O := fun k => w.heap.size ≤ k) (.slice none 0 0) 0 [] none rfl (.nil rfl rfl rfl) _ i (filCs (ds.S.take i)) rfl (src_first hC i (by omega)) (by unfold maxLen; omega) (by omega) ?_; intro a1 cc1 w1 g1 hC1 hst1 hf1; have hb1 := stayB hst1; have hw1 := hb1.size; have c1' := (hb1.cell (p := ⟨p, 1, none⟩) hpw).trans c1; have f1' := (hb1.frozen (p := ⟨p, 1, none⟩) hpw).trans f1; have hCo := hC.below hb1; have hC1' := Cel.lowG (Nat.le_refl _) hC1; simp only [Nat.zero_add, List.nil_append] at hC1'))
  all_goals
    have hC2' := Cel.lowG hw1 hC2
    rw [← filCs_app] at hC2'
    have hfin := HR.out.filed (hb1.trans hb2) (by rw [List.length_append, List.length_take, List.length_drop, HN.out]; omega) hC2'
    go_end0
    exact ⟨rfl, hfin⟩

set_option maxRecDepth 100000 in
set_option maxHeartbeats 2000000 in
theorem refPut_val (h : RAt O w p a c g ds) (hf : Fit ds) (x : Fl) (hx : fget ds.S x.1 = none) :
    Calls Tryz.prog 84 #[.pointer (some ⟨p, 0, none⟩), .agg #[.string (ba x.1), .string (ba x.2.1), .int .i64 (x.2.2 : Int)]] w fun e w' => e = .returned (.tuple #[]) ∧ (∃ a' c' g', RAt (Grow O w w') w' p a' c' g' { ds with S := fins x ds.S }) ∧ Stay O w w' := by
  obtain ⟨ti, hi1, hi2, hi3, hi4⟩ := fileRow
  have hm := hf.most
  have hcap := h.cel.cap
  have hc1 := hcap.1
  have hc2 := hcap.2.1
  unfold maxLen at hc2
  have HR : Hid _ := h
  have hpw := h.lt p h.oP
  have HF : Hid _ := hf
  have HX : Hid _ := hx
  clear h hf hcap hx
  obtain ⟨N, hN⟩ : ∃ N, ds.S.length = N := ⟨_, rfl⟩
  have HN : Hid _ := hN
  rw [hN] at hm hc1
  clear hN
  go_enter Tryz.func84, Tryz.ntmps84
  go_wp2
  obtain ⟨wa, hwa⟩ : ∃ wa, w.alloc (.cells #[.string (ba x.1), .string (ba x.2.1), .int .i64 (x.2.2 : Int)] 118) = wa := ⟨_, rfl⟩
  have m0 : wa.cell? ⟨w.heap.size, 0, none⟩ = some (.string (ba x.1)) := hwa ▸ World.cell?_alloc_new w _ _ 0
  have m1 : wa.cell? ⟨w.heap.size, 1, none⟩ = some (.string (ba x.2.1)) := hwa ▸ World.cell?_alloc_new w _ _ 1
  have m2 : wa.cell? ⟨w.heap.size, 2, none⟩ = some (.int .i64 (x.2.2 : Int)) := hwa ▸ World.cell?_alloc_new w _ _ 2
  have hba : Below w.heap.size w wa := hwa ▸ (Below.refl _ w).alloc (Nat.le_refl _) _
  have hza : w.heap.size < wa.heap.size := by rw [← hwa]; simp
  rw [hwa]
  clear hwa
  go_loopw [4] (fun v wr => ∃ i d : Nat, i ≤ N ∧ v = .int .i64 i ∧ wr = wa.drewN d ∧ ∀ j (hj : j < ds.S.length), j < i → bytesBefore ds.S[j].1 x.1 = true) (fun v _ => N - (intOf v).toNat)
  case atStart => exact ⟨0, 0, by omega, rfl, rfl, fun j _ h => by omega⟩
  case round =>
    obtain ⟨i, d, hi, rfl, hw, hno⟩ := hrel
    have HNO : Hid _ := hno
    have hRr : RAt O wr p a c g ds := HR.out.below (by rw [hw]; exact below_drewN hba d)
    have c1 := hRr.c1
    rw [HN.out] at c1
    have mm : ∀ j v, wa.cell? ⟨w.heap.size, j, none⟩ = some v → wr.cell? ⟨w.heap.size, j, none⟩ = some v := fun j v h => by rw [hw]; exact ((below_drewN (Below.refl wa.heap.size wa) d).cell (p := ⟨w.heap.size, j, none⟩) hza).trans h
    have e0 := mm 0 _ m0
    have e1 := mm 1 _ m1
    have e2 := mm 2 _ m2
    have HW : Hid _ := hw
    have HRr : Hid _ := hRr
    clear hno mm hw hRr
    by_cases hlt : i < N
    · have hiS : i < ds.S.length := by rw [HN.out]; exact hlt
      obtain ⟨k, rfl, rfl, q0, q1, q2⟩ := HRr.out.file hiS
      clear q1 q2
      cases he : bytesBefore ds.S[i].1 x.1
      · have hb : Op.bytesLess (ba ds.S[i].1).toList (ba x.1).toList = false := by rw [ba_list, ba_list, less_eqP]; exact he
        have HFI : Hid (fins x ds.S = ds.S.take i ++ x :: ds.S.drop i) := fins_here HF.out.rise HX.out i HNO.out (fun _ => he)
        clear he
        generalize ba ds.S[i].1 = s1 at *
        go_wp2
        go_quiet (fail)
        obtain ⟨W, hW⟩ : ∃ W, wr.drewN nq = W := ⟨_, rfl⟩
        rw [hW]
        have hWr : Below wr.heap.size wr W := by rw [← hW]; exact below_drewN (Below.refl _ wr) nq
        have hzr : w.heap.size < wr.heap.size := by rw [HW.out]; exact Nat.lt_of_lt_of_le hza (below_drewN (Below.refl wa.heap.size wa) d).size
        have hWb : Below w.heap.size w W := (by rw [HW.out]; exact below_drewN hba d : Below w.heap.size w wr).trans (hWr.mono (Nat.le_of_lt hzr))
        have hRW := HRr.out.below hWr
        have hzW : w.heap.size < W.heap.size := Nat.lt_of_lt_of_le hzr hWr.size
        have hpW : p < W.heap.size := hRW.lt p hRW.oP
        have c1W := hRW.c1
        rw [HN.out] at c1W
        have f1W := hRW.f1
        have e0W := (hWr.cell (p := ⟨w.heap.size, 0, none⟩) hzr).trans e0
        have e1W := (hWr.cell (p := ⟨w.heap.size, 1, none⟩) hzr).trans e1
        have e2W := (hWr.cell (p := ⟨w.heap.size, 2, none⟩) hzr).trans e2
        have hCW := hRW.cel
        rw [HN.out] at hCW
        clear hW HW HRr hWr e0 e1 e2 c1 m0 m1 m2 hRW
        go_wp2_with (first
          | (at_builtin; refine wpList_append_cel _ rfl _ _ 95 95 rfl 118 ti _ 3 40 Tryz.underlying95 hi1 hi2 hi3 hi4 rfl (O := fun k => w.heap.size ≤ k) _ (i + 1) _ g2 rfl hC2' _ (N - i) (filCs (ds.S.drop i)) rfl (src_lastN hCo i (N - i) _ (by omega) (by omega)) (by unfold maxLen; omega) (by omega) ?_; intro a3 cc3 w3 g3 hC3 hst3 hf3; have hb3 := hst3.below (B := w.heap.size) hw2' (fun k hk => by rw [hk] at hC2'; exact hC2'.lt.2); have c13 := (hb3.cell (p := ⟨p, 1, none⟩) hpw).trans c12; have f13 := (hb3.frozen (p := ⟨p, 1, none⟩) hpw).trans f12)
          | (at_builtin; refine wpList_append_cel _ rfl _ _ 95 95 rfl 118 ti _ 3 40 Tryz.underlying95 hi1 hi2 hi3 hi4 rfl (O := fun k => w.heap.size ≤ k) _ i _ g1 rfl (hC1'.below ((Below.refl _ _).alloc (Nat.le_refl _) _)) _ 1 (filC x) rfl (src_oneF w1 x) (by unfold maxLen; omega) (by omega) ?_; intro a2 cc2 w2 g2 hC2 hst2 hf2; have hw2 : w1.heap.size + 1 ≤ w2.heap.size := (by have := hst2.size; simpa using this); have hw2' : w.heap.size ≤ w2.heap.size := (by omega); have hC2' := Cel.lowG (by simp; omega) hC2; have hb2 := hst2.below (B := w.heap.size) (by simp; omega) (fun k hk => by rw [hk] at hC1'; exact hC1'.lt.2); have hb12 := ((Below.refl _ w1).alloc (Nat.le_of_lt hw1) (.cells #[.string (ba x.1), .string (ba x.2.1), .int .i64 (x.2.2 : Int)] 118)).trans hb2; have c12 := (hb12.cell (p := ⟨p, 1, none⟩) hpw).trans c1'; have f12 := (hb12.frozen (p := ⟨p, 1, none⟩) hpw).trans f1'; have hCo := celo w2 hb12 hst2)
          | (at_builtin; refine wpList_append_cel _ rfl _ _ 95 95 rfl 118 ti _ 3 40 Tryz.underlying95 hi1 hi2 hi3 hi4 rfl (O := fun k => w.heap.size ≤ k) (.slice none 0 0) 0 [] none rfl (.nil rfl rfl rfl) _ i (filCs (ds.S.take i)) rfl (src_first hCW i (by omega)) (by unfold maxLen; omega) (by omega) ?_; intro a1 cc1 w1 g1 hC1 hst1 hf1; have hb1 := stayB hst1; have hw1 := Nat.lt_of_lt_of_le hzW hb1.size; have c1' := (hb1.cell (p := ⟨p, 1, none⟩) hpW).trans c1W; have f1' := (hb1.frozen (p := ⟨p, 1, none⟩) hpW).trans f1W; have e01 := (hb1.cell (p := ⟨w.heap.size, 0, none⟩) hzW).trans e0W; have e11 := (hb1.cell (p := ⟨w.heap.size, 1, none⟩) hzW).trans e1W; have e21 := (hb1.cell (p := ⟨w.heap.size, 2, none⟩) hzW).trans e2W; have hC1' := Cel.lowG (Nat.le_of_lt hzW) hC1; simp only [Nat.zero_add, List.nil_append] at hC1'; have celo := fun (w2 : World) (_ : Below w.heap.size w1 w2) => cel_keeps (x := x) hCW hb1 hf1 (w2 := w2)))
        all_goals
          have hC3' := Cel.lowG hw2' hC3
          have hcs : filCs (ds.S.take i) ++ filC x ++ filCs (ds.S.drop i) = filCs (fins x ds.S) := by rw [HFI.out, filCs_app, List.append_assoc]; rfl
          rw [hcs] at hC3'
          have hfin := HR.out.filed ((hWb.trans (hb1.mono (Nat.le_of_lt hzW))).trans (hb12.trans hb3)) (by have := len_fins x ds.S; rw [HN.out] at this; omega) hC3'
          go_end0
          exact ⟨rfl, hfin⟩
      · have hb : Op.bytesLess (ba ds.S[i].1).toList (ba x.1).toList = true := by rw [ba_list, ba_list, less_eqP]; exact he
        have HE : Hid _ := he
        clear he
        generalize ba ds.S[i].1 = s1 at *
        go_wp2
        go_quiet (fail)
        go_wp2
        go_roundw
        case rel => exact ⟨i + 1, d + nq, by omega, by go_num, by rw [HW.out, World.drewN_drewN], fun j hj h => by
          rcases Nat.lt_or_ge j i with e | e
          · exact HNO.out j hj e
          · obtain rfl : j = i := by omega
            exact HE.out⟩
        case measure => simp [intOf]; omega
    · obtain rfl : i = N := by omega
      have HFI : Hid (fins x ds.S = ds.S.take i ++ x :: ds.S.drop i) := fins_here HF.out.rise HX.out i HNO.out (fun h => by rw [HN.out] at h; omega)
      have hg : decide ((i : Int) < (i : Int)) = false := decide_eq_false (by omega)
      have hcc := HRr.out.cel
      rw [HN.out] at hcc
      have HCN : Hid ((a = none ∧ c = 0 ∧ i = 0 ∧ g = none) ∨ ∃ k, a = some ⟨k, 0, none⟩ ∧ g = some k) := by
        cases hcc with
        | nil h1 h2 h3 => cases h1; exact .inl ⟨rfl, rfl, h2, rfl⟩
        | row g cap h1 hl2 h2 h3 h4 h5 h6 h7 => cases h1; exact .inr ⟨g, rfl, rfl⟩
      clear hcc
      rcases HCN.out with ⟨rfl, rfl, hi0, rfl⟩ | ⟨k, rfl, rfl⟩
      · subst hi0
        have HS0 : Hid (ds.S = []) := List.length_eq_zero_iff.1 HN.out
        go_wp2
        go_quiet (fail)
        obtain ⟨W, hW⟩ : ∃ W, wr.drewN nq = W := ⟨_, rfl⟩
        rw [hW]
        have hWr : Below wr.heap.size wr W := by rw [← hW]; exact below_drewN (Below.refl _ wr) nq
        have hzr : w.heap.size < wr.heap.size := by rw [HW.out]; exact Nat.lt_of_lt_of_le hza (below_drewN (Below.refl wa.heap.size wa) d).size
        have hWb : Below w.heap.size w W := (by rw [HW.out]; exact below_drewN hba d : Below w.heap.size w wr).trans (hWr.mono (Nat.le_of_lt hzr))
        have hRW := HRr.out.below hWr
        have hzW : w.heap.size < W.heap.size := Nat.lt_of_lt_of_le hzr hWr.size
        have hpW : p < W.heap.size := hRW.lt p hRW.oP
        have c1W := hRW.c1
        rw [HN.out] at c1W
        have f1W := hRW.f1
        have e0W := (hWr.cell (p := ⟨w.heap.size, 0, none⟩) hzr).trans e0
        have e1W := (hWr.cell (p := ⟨w.heap.size, 1, none⟩) hzr).trans e1
        have e2W := (hWr.cell (p := ⟨w.heap.size, 2, none⟩) hzr).trans e2
        have hCW := hRW.cel
        rw [HN.out] at hCW
        clear hW HW HRr hWr e0 e1 e2 c1 m0 m1 m2 hRW
        go_wp2_with (first
          | (at_builtin; refine wpList_append_cel _ rfl _ _ 95 95 rfl 118 ti _ 3 40 Tryz.underlying95 hi1 hi2 hi3 hi4 rfl (O := fun k => w.heap.size ≤ k) _ (0 + 1) _ g2 rfl hC2' _ (0) [] rfl (Src.ofNil _ Tryz.underlying95 _) (by unfold maxLen; omega) (by omega) ?_; intro a3 cc3 w3 g3 hC3 hst3 hf3; have hb3 := hst3.below (B := w.heap.size) hw2' (fun k hk => by rw [hk] at hC2'; exact hC2'.lt.2); have c13 := (hb3.cell (p := ⟨p, 1, none⟩) hpw).trans c12; have f13 := (hb3.frozen (p := ⟨p, 1, none⟩) hpw).trans f12)
          | (at_builtin; refine wpList_append_cel _ rfl _ _ 95 95 rfl 118 ti _ 3 40 Tryz.underlying95 hi1 hi2 hi3 hi4 rfl (O := fun k => w.heap.size ≤ k) _ 0 _ g1 rfl (hC1'.below ((Below.refl _ _).alloc (Nat.le_refl _) _)) _ 1 (filC x) rfl (src_oneF w1 x) (by unfold maxLen; omega) (by omega) ?_; intro a2 cc2 w2 g2 hC2 hst2 hf2; have hw2 : w1.heap.size + 1 ≤ w2.heap.size := (by have := hst2.size; simpa using this); have hw2' : w.heap.size ≤ w2.heap.size := (by omega); have hC2' := Cel.lowG (by simp; omega) hC2; have hb2 := hst2.below (B := w.heap.size) (by simp; omega) (fun k hk => by rw [hk] at hC1'; exact hC1'.lt.2); have hb12 := ((Below.refl _ w1).alloc (Nat.le_of_lt hw1) (.cells #[.string (ba x.1), .string (ba x.2.1), .int .i64 (x.2.2 : Int)] 118)).trans hb2; have c12 := (hb12.cell (p := ⟨p, 1, none⟩) hpw).trans c1'; have f12 := (hb12.frozen (p := ⟨p, 1, none⟩) hpw).trans f1'; have hCo := celo w2 hb12 hst2)
          | (at_builtin; refine wpList_append_cel _ rfl _ _ 95 95 rfl 118 ti _ 3 40 Tryz.underlying95 hi1 hi2 hi3 hi4 rfl (O := fun k => w.heap.size ≤ k) (.slice none 0 0) 0 [] none rfl (.nil rfl rfl rfl) _ 0 (filCs (ds.S.take 0)) rfl (src_first hCW 0 (by omega)) (by unfold maxLen; omega) (by omega) ?_; intro a1 cc1 w1 g1 hC1 hst1 hf1; have hb1 := stayB hst1; have hw1 := Nat.lt_of_lt_of_le hzW hb1.size; have c1' := (hb1.cell (p := ⟨p, 1, none⟩) hpW).trans c1W; have f1' := (hb1.frozen (p := ⟨p, 1, none⟩) hpW).trans f1W; have e01 := (hb1.cell (p := ⟨w.heap.size, 0, none⟩) hzW).trans e0W; have e11 := (hb1.cell (p := ⟨w.heap.size, 1, none⟩) hzW).trans e1W; have e21 := (hb1.cell (p := ⟨w.heap.size, 2, none⟩) hzW).trans e2W; have hC1' := Cel.lowG (Nat.le_of_lt hzW) hC1; simp only [Nat.zero_add, List.nil_append] at hC1'; have celo := fun (w2 : World) (_ : Below w.heap.size w1 w2) => cel_keeps (x := x) hCW hb1 hf1 (w2 := w2)))
        all_goals
          have hC3' := Cel.lowG hw2' hC3
          have hcs : filCs (ds.S.take 0) ++ filC x ++ [] = filCs (fins x ds.S) := by rw [HS0.out]; rfl
          rw [hcs] at hC3'
          have hfin := HR.out.filed ((hWb.trans (hb1.mono (Nat.le_of_lt hzW))).trans (hb12.trans hb3)) (by have := len_fins x ds.S; rw [HN.out] at this; omega) hC3'
          go_end0
          exact ⟨rfl, hfin⟩
      · go_wp2
        go_quiet (fail)
        obtain ⟨W, hW⟩ : ∃ W, wr.drewN nq = W := ⟨_, rfl⟩
        rw [hW]
        have hWr : Below wr.heap.size wr W := by rw [← hW]; exact below_drewN (Below.refl _ wr) nq
        have hzr : w.heap.size < wr.heap.size := by rw [HW.out]; exact Nat.lt_of_lt_of_le hza (below_drewN (Below.refl wa.heap.size wa) d).size
        have hWb : Below w.heap.size w W := (by rw [HW.out]; exact below_drewN hba d : Below w.heap.size w wr).trans (hWr.mono (Nat.le_of_lt hzr))
        have hRW := HRr.out.below hWr
        have hzW : w.heap.size < W.heap.size := Nat.lt_of_lt_of_le hzr hWr.size
        have hpW : p < W.heap.size := hRW.lt p hRW.oP
        have c1W := hRW.c1
        rw [HN.out] at c1W
        have f1W := hRW.f1
        have e0W := (hWr.cell (p := ⟨w.heap.size, 0, none⟩) hzr).trans e0
        have e1W := (hWr.cell (p := ⟨w.heap.size, 1, none⟩) hzr).trans e1
        have e2W := (hWr.cell (p := ⟨w.heap.size, 2, none⟩) hzr).trans e2
        have hCW := hRW.cel
        rw [HN.out] at hCW
        clear hW HW HRr hWr e0 e1 e2 c1 m0 m1 m2 hRW
        go_wp2_with (first
          | (at_builtin; refine wpList_append_cel _ rfl _ _ 95 95 rfl 118 ti _ 3 40 Tryz.underlying95 hi1 hi2 hi3 hi4 rfl (O := fun k => w.heap.size ≤ k) _ (i + 1) _ g2 rfl hC2' _ 0 (filCs (ds.S.drop i)) rfl (src_last hCo i 0 _ (by omega)) (by unfold maxLen; omega) (by omega) ?_; intro a3 cc3 w3 g3 hC3 hst3 hf3; have hb3 := hst3.below (B := w.heap.size) hw2' (fun k hk => by rw [hk] at hC2'; exact hC2'.lt.2); have c13 := (hb3.cell (p := ⟨p, 1, none⟩) hpw).trans c12; have f13 := (hb3.frozen (p := ⟨p, 1, none⟩) hpw).trans f12)
          | (at_builtin; refine wpList_append_cel _ rfl _ _ 95 95 rfl 118 ti _ 3 40 Tryz.underlying95 hi1 hi2 hi3 hi4 rfl (O := fun k => w.heap.size ≤ k) _ i _ g1 rfl (hC1'.below ((Below.refl _ _).alloc (Nat.le_refl _) _)) _ 1 (filC x) rfl (src_oneF w1 x) (by unfold maxLen; omega) (by omega) ?_; intro a2 cc2 w2 g2 hC2 hst2 hf2; have hw2 : w1.heap.size + 1 ≤ w2.heap.size := (by have := hst2.size; simpa using this); have hw2' : w.heap.size ≤ w2.heap.size := (by omega); have hC2' := Cel.lowG (by simp; omega) hC2; have hb2 := hst2.below (B := w.heap.size) (by simp; omega) (fun k hk => by rw [hk] at hC1'; exact hC1'.lt.2); have hb12 := ((Below.refl _ w1).alloc (Nat.le_of_lt hw1) (.cells #[.string (ba x.1), .string (ba x.2.1), .int .i64 (x.2.2 : Int)] 118)).trans hb2; have c12 := (hb12.cell (p := ⟨p, 1, none⟩) hpw).trans c1'; have f12 := (hb12.frozen (p := ⟨p, 1, none⟩) hpw).trans f1'; have hCo := celo w2 hb12 hst2)
          | (at_builtin; refine wpList_append_cel _ rfl _ _ 95 95 rfl 118 ti _ 3 40 Tryz.underlying95 hi1 hi2 hi3 hi4 rfl (O := fun k => w.heap.size ≤ k) (.slice none 0 0) 0 [] none rfl (.nil rfl rfl rfl) _ i (filCs (ds.S.take i)) rfl (src_first hCW i (by omega)) (by unfold maxLen; omega) (by omega) ?_; intro a1 cc1 w1 g1 hC1 hst1 hf1; have hb1 := stayB hst1; have hw1 := Nat.lt_of_lt_of_le hzW hb1.size; have c1' := (hb1.cell (p := ⟨p, 1, none⟩) hpW).trans c1W; have f1' := (hb1.frozen (p := ⟨p, 1, none⟩) hpW).trans f1W; have e01 := (hb1.cell (p := ⟨w.heap.size, 0, none⟩) hzW).trans e0W; have e11 := (hb1.cell (p := ⟨w.heap.size, 1, none⟩) hzW).trans e1W; have e21 := (hb1.cell (p := ⟨w.heap.size, 2, none⟩) hzW).trans e2W; have hC1' := Cel.lowG (Nat.le_of_lt hzW) hC1; simp only [Nat.zero_add, List.nil_append] at hC1'; have celo := fun (w2 : World) (_ : Below w.heap.size w1 w2) => cel_keeps (x := x) hCW hb1 hf1 (w2 := w2)))
        all_goals
          have hC3' := Cel.lowG hw2' hC3
          have hcs : filCs (ds.S.take i) ++ filC x ++ filCs (ds.S.drop i) = filCs (fins x ds.S) := by rw [HFI.out, filCs_app, List.append_assoc]; rfl
          rw [hcs] at hC3'
          have hfin := HR.out.filed ((hWb.trans (hb1.mono (Nat.le_of_lt hzW))).trans (hb12.trans hb3)) (by have := len_fins x ds.S; rw [HN.out] at this; omega) hC3'
          go_end0
          exact ⟨rfl, hfin⟩

end

end Go.Proofs.YtfmhmokbbkliaaaGreat
