/- The contracts of tabulariumref04.List and tabulariumlaw04.texts. -/
import Derived.Test.YtlgfhmedenlbcaaPlayF5
import Derived.Test.YtlgfhmedenlbcaaRowPlain
namespace Go.Proofs.Ytlgfhmedenlbcaa
open Go.RowKit

theorem strRow : ∃ i, Try.prog.info? 9 = some i ∧ i.zero = some (.string ⟨#[]⟩) ∧ i.size = 1 ∧ i.bytes = 16 :=
  info_parts (show (Try.prog.info? 9).map (fun i => (i.zero, i.size, i.bytes)) = some (some (.string ⟨#[]⟩), 1, 16) by kernel_rfl)

def namCs (S : FS) : List Value := S.map (fun p => .string (ba p.1))
theorem namCs_len (S : FS) : (namCs S).length = S.length := by simp [namCs]

theorem src_oneS (w : World) (s : ByteArray) : Src Try.prog 1 33 (.slice (some ⟨w.heap.size, 0, none⟩) 1 1) 1 [.string s] (w.alloc (.cells #[.string s] 9)) :=
  Src.ofSlice _ Try.underlying33 ⟨w.heap.size, 0, none⟩ 1 1 [.string s] rfl (fun j u hu => by
    obtain ⟨hj1, hj2⟩ := List.getElem?_eq_some_iff.1 hu
    have : j = 0 := by simpa using hj1
    subst this
    rw [Addr.add_lit, Nat.zero_add, ← hj2]
    exact World.cell?_alloc_new w _ _ 0) (fun u hu => by rw [List.mem_singleton.1 hu]; rfl)

section
variable {O : Nat → Prop} {w : World} {p : Nat} {a : Option Addr} {c : Nat} {g : Option Nat} {ds : DS}

set_option maxRecDepth 100000 in
set_option maxHeartbeats 1000000 in
theorem refList_val {room fuse : Int} {S : FS} {down : Bool} (h : RAt O w p a c g ⟨room, fuse, down, S⟩) (hf : Fit ⟨room, fuse, down, S⟩) (L : Nat) (hL : (if down then [] else S).length = L) :
    Calls Try.prog 15 #[.pointer (some ⟨p, 0, none⟩)] w fun e w' => ∃ oa oc og, e = .returned (.slice oa L oc) ∧ Cel (fun k => w.heap.size ≤ k) w' 1 (.slice oa L oc) L (namCs (if down then [] else S)) og ∧ Below w.heap.size w w' := by
  obtain ⟨ti, hi1, hi2, hi3, hi4⟩ := strRow
  have hm : S.length ≤ 20 := hf.most
  have c1 : w.cell? ⟨p, 1, none⟩ = some (.slice a S.length c) := h.c1
  have c3 : w.cell? ⟨p, 3, none⟩ = some (.bool down) := h.c3
  cases down with
  | true =>
    have e0 : 0 = L := hL
    subst e0
    clear h hf hL
    have hz : S.length = 0 ∨ 0 < S.length := by omega
    rcases hz with hz | hz
    · rw [hz] at c1
      go_enter Try.func15, Try.ntmps15
      go_wp2
      go_loopw [3, 4] (fun vo vi wr => vo = .slice none 0 0 ∧ vi = .int .i64 0 ∧ wr = w) (fun _ vi _ => 1)
      case atStart => exact ⟨rfl, rfl, rfl⟩
      case round =>
        obtain ⟨rfl, rfl, hw⟩ := hrel
        subst hw
        go_wp2
        go_ret
        exact ⟨none, 0, rfl, ⟨none, .nil rfl rfl rfl⟩, Below.refl _ _⟩
    · go_enter Try.func15, Try.ntmps15
      go_wp2
      go_loopw [3, 4] (fun vo vi wr => vo = .slice none 0 0 ∧ vi = .int .i64 0 ∧ wr = w) (fun _ vi _ => 1)
      case atStart => exact ⟨rfl, rfl, rfl⟩
      case round =>
        obtain ⟨rfl, rfl, hw⟩ := hrel
        subst hw
        have hz2 : decide ((0 : Int) < (S.length : Int)) = true := decide_eq_true (by omega)
        go_wp2
        go_ret
        exact ⟨none, 0, rfl, ⟨none, .nil rfl rfl rfl⟩, Below.refl _ _⟩
  | false =>
    have e0 : S.length = L := hL
    subst e0
    show Calls Try.prog 15 #[.pointer (some ⟨p, 0, none⟩)] w fun e w' => ∃ oa oc og, e = .returned (.slice oa S.length oc) ∧ Cel (fun k => w.heap.size ≤ k) w' 1 (.slice oa S.length oc) S.length (namCs S) og ∧ Below w.heap.size w w'
    have HR : Hid _ := h
    obtain ⟨N, hN⟩ : ∃ N, S.length = N := ⟨_, rfl⟩
    have HN : Hid _ := hN
    rw [hN] at hm ⊢
    clear h hf hL hN c1 c3
    go_enter Try.func15, Try.ntmps15
    go_wp2
    go_loopw [3, 4] (fun vo vi wr => ∃ (i : Nat) (oa : Option Addr) (oc : Nat) (og : Option Nat), i ≤ N ∧ vi = .int .i64 i ∧ vo = .slice oa i oc ∧ Cel (fun k => w.heap.size ≤ k) wr 1 (.slice oa i oc) i (namCs (S.take i)) og ∧ Below w.heap.size w wr) (fun _ vi _ => N - (intOf vi).toNat)
    case atStart => exact ⟨0, none, 0, none, by omega, rfl, rfl, .nil rfl rfl (by simp [namCs]), Below.refl _ _⟩
    case round =>
      obtain ⟨i, oa, oc, og, hin, rfl, rfl, hC, hB⟩ := hrel
      have hRr := HR.out.below hB
      have c1 : wr.cell? ⟨p, 1, none⟩ = some (.slice a N c) := by rw [← HN.out]; exact hRr.c1
      have c3 : wr.cell? ⟨p, 3, none⟩ = some (.bool false) := hRr.c3
      have hwr := hB.size
      by_cases hlt : i < N
      · have hiS : i < S.length := by rw [HN.out]; exact hlt
        obtain ⟨k, ha, hg2, r0, r1, r2⟩ := hRr.file hiS
        subst ha hg2
        have r0' : wr.cell? ⟨k, i * 3, none⟩ = some (.string (ba S[i].1)) := r0
        obtain ⟨s1, hs1⟩ : ∃ s1, ba S[i].1 = s1 := ⟨_, rfl⟩
        have hnc : namCs (S.take (i + 1)) = namCs (S.take i) ++ [.string s1] := by
          rw [List.take_succ_eq_append_getElem hiS, ← hs1]; exact List.map_append
        rw [hs1] at r0'
        have HC : Hid (Cel (fun k => w.heap.size ≤ k) wr 1 (.slice oa i oc) i (namCs (S.take i)) og) := hC
        have HB : Hid _ := hB
        have HNC : Hid _ := hnc
        clear r0 r1 r2 hRr hC hB hnc
        go_wp2_with (at_builtin; refine wpList_append_cel _ rfl _ _ 33 33 rfl 9 ti (.string ⟨#[]⟩) 1 16 Try.underlying33 hi1 hi2 hi3 hi4 rfl (O := fun k => w.heap.size ≤ k) _ i _ og rfl (HC.out.below ((Below.refl _ _).alloc (Nat.le_refl _) _)) _ 1 [.string s1] rfl (src_oneS wr s1) (by unfold maxLen; omega) (by omega) ?_; intro a2 cc2 w2 g2 hC2 hst2 hf2)
        have hC2' := Cel.lowG (by simp; omega) hC2
        have hb2 := hst2.below (B := w.heap.size) (by simp; omega) (fun k hk => by have := HC.out; rw [hk] at this; exact this.lt.2)
        rw [← HNC.out] at hC2'
        have H2 : Hid (Cel (fun k => w.heap.size ≤ k) w2 1 (.slice a2 (i + 1) cc2) (i + 1) (namCs (S.take (i + 1))) g2) := hC2'
        have HB2 : Hid (Below w.heap.size w w2) := (HB.out.trans ((Below.refl _ wr).alloc hwr (.cells #[.string s1] 9))).trans hb2
        clear hC2 hC2' hb2 hst2 hf2
        go_roundw
        case rel => exact ⟨i + 1, a2, cc2, g2, by omega, by go_num, by first | rfl | (congr 1 <;> omega), H2.out, HB2.out⟩
        case measure => simp [intOf]; omega
      · obtain rfl : i = N := by omega
        have HC : Hid (Cel (fun k => w.heap.size ≤ k) wr 1 (.slice oa i oc) i (namCs S) og) := by rwa [List.take_of_length_le (by rw [HN.out]; omega)] at hC
        have hgd : decide ((i : Int) < (i : Int)) = false := decide_eq_false (by omega)
        clear hC hRr hlt
        go_wp2
        go_ret
        exact ⟨oa, oc, og, rfl, HC.out, hB⟩

end

set_option maxRecDepth 100000 in
set_option maxHeartbeats 1000000 in
theorem texts_val (a1 : Option Addr) (b1 c1 : Nat) (a2 : Option Addr) (b2 c2 n : Nat) (ss : List ByteArray) (w : World) (hn : ss.length = n) (hm : n ≤ 20) (h1 : 0 < n → a1 = some ⟨b1, 0, none⟩) (h2 : 0 < n → a2 = some ⟨b2, 0, none⟩)
    (r1 : ∀ j (hj : j < ss.length), w.cell? ⟨b1, j, none⟩ = some (.string ss[j])) (r2 : ∀ j (hj : j < ss.length), w.cell? ⟨b2, j, none⟩ = some (.string ss[j])) :
    Calls Try.prog 13 #[.slice a1 n c1, .slice a2 n c2] w fun e w' => e = .returned (.bool true) ∧ ∃ d, w' = w.drewN d := by
  have HN : Hid _ := hn
  have H1 : Hid _ := h1
  have H2 : Hid _ := h2
  have R1 : Hid _ := r1
  have R2 : Hid _ := r2
  clear hn h1 h2 r1 r2
  go_enter Try.func13, Try.ntmps13
  go_wp2
  go_loopw [5] (fun v wr => ∃ i d : Nat, i ≤ n ∧ v = .int .i64 i ∧ wr = w.drewN d) (fun v _ => n - (intOf v).toNat)
  case atStart => exact ⟨0, 0, by omega, rfl, rfl⟩
  case round =>
    obtain ⟨i, d, hi, rfl, hd⟩ := hrel
    by_cases hlt : i < n
    · have e1 : i < ss.length := by rw [HN.out]; exact hlt
      obtain rfl := H1.out (by omega)
      obtain rfl := H2.out (by omega)
      have q1 : wr.cell? ⟨b1, i, none⟩ = some (.string ss[i]) := by
        have := R1.out i e1
        rw [hd]; exact ((below_drewN (Below.refl w.heap.size w) d).cell (World.block_lt_of_cell? _ _ this)).trans this
      have q2 : wr.cell? ⟨b2, i, none⟩ = some (.string ss[i]) := by
        have := R2.out i e1
        rw [hd]; exact ((below_drewN (Below.refl w.heap.size w) d).cell (World.block_lt_of_cell? _ _ this)).trans this
      have HD : Hid _ := hd
      clear hd
      generalize ss[i] = s1 at *
      go_wp2
      go_quiet (fail)
      go_wp2
      go_roundw
      case rel => exact ⟨i + 1, d + nq, by omega, by go_num, by rw [HD.out, World.drewN_drewN]⟩
      case measure => simp [intOf]; omega
    · have hge : n ≤ i := by omega
      clear hlt
      go_wp2
      go_ret
      exact ⟨rfl, d, by first | rfl | exact hd⟩

end Go.Proofs.Ytlgfhmedenlbcaa
