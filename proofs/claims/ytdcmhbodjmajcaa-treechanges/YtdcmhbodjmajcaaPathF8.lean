/- The contracts of path.Under and path.Move. -/
import Derived.Test.YtdcmhbodjmajcaaPathF6
import Derived.Test.YtdcmhbodjmajcaaPathF7
namespace Go.Proofs.Ytdcmhbodjmajcaa
open Go.RowKit

set_option maxRecDepth 100000 in
theorem under_val (a b : ByteArray) (u : Bool) (w : World) (hs : a.size ≤ maxLen) (hs2 : b.size ≤ maxLen) (hu : underB a b = u) :
    Calls Try.prog 55 #[.string a, .string b] w fun e w' => e = .returned (.bool u) ∧ Below w.heap.size w w' := by
  obtain ⟨n, hn⟩ : ∃ n, (belowN a b).length = n := ⟨_, rfl⟩
  have HN : Hid ((belowN a b).length = n) := hn
  have HU : Hid (underB a b = u) := hu
  clear hn hu
  go_enter Try.func55, Try.ntmps55
  go_wp2_with fail
  refine (below_val a b _ u n _ hs hs2 rfl HU.out HN.out).mono ?_
  rintro e w1 ⟨⟨x, b1, off, cap, rfl, hS⟩, c1⟩
  clear hS
  go_wp2
  go_ret
  exact ⟨rfl, c1⟩

theorem concat_two (g : Nat) (a1 a2 : Option Addr) (n1 n2 b1 b2 f1 f2 c1 c2 : Nat) (s1 s2 : List ByteArray) (w : World) (h0 : w.cell? ⟨g, 0, none⟩ = some (.slice a1 n1 c1)) (h1 : w.cell? ⟨g, 1, none⟩ = some (.slice a2 n2 c2))
    (S1 : Sl w a1 b1 f1 c1 s1) (S2 : Sl w a2 b2 f2 c2 s2) (hn1 : s1.length = n1) (hn2 : s2.length = n2) (hl1 : n1 ≤ 100) (hl2 : n2 ≤ 100) :
    Calls Try.prog 75 #[.slice (some ⟨g, 0, none⟩) 2 2] w fun e w' => ∃ a b cap, e = .returned (.slice a (n1 + n2) cap) ∧ Sl w' a b 0 cap (s1 ++ s2) ∧ Below w.heap.size w w' := by
  refine (concat_any g (fun k => if k = 0 then a1 else a2) (fun k => if k = 0 then n1 else n2) (fun k => if k = 0 then b1 else b2) (fun k => if k = 0 then f1 else f2) (fun k => if k = 0 then c1 else c2) (fun k => if k = 0 then s1 else s2) w ?_ ?_ ?_ ?_).mono ?_
  · intro k hk
    match k, hk with
    | 0, _ => exact h0
    | 1, _ => exact h1
  · intro k hk
    match k, hk with
    | 0, _ => exact S1
    | 1, _ => exact S2
  · intro k hk
    match k, hk with
    | 0, _ => exact hn1
    | 1, _ => exact hn2
  · intro k hk
    match k, hk with
    | 0, _ => exact hl1
    | 1, _ => exact hl2
  · rintro e w' ⟨⟨v, rfl, ho⟩, hb⟩
    have hc : catS (fun k => if k = 0 then s1 else s2) 2 = s1 ++ s2 := by simp [catS]
    rw [hc] at ho
    obtain ⟨a, b, cap, rfl, hS⟩ := own_strs ho (by rw [List.length_append]; omega) (fun x hx => by
      rcases List.mem_append.1 hx with hx | hx
      · exact S1.strs.small x hx
      · exact S2.strs.small x hx)
    rw [List.length_append, hn1, hn2]
    exact ⟨a, b, cap, rfl, hS, hb⟩

theorem moveX_no {p f t : ByteArray} (h : ¬ (underB f p = true ∧ splitE t = 0)) : moveX p f t = (⟨#[]⟩, 1) := if_neg h
theorem moveX_yes {p f t : ByteArray} (h : underB f p = true) (h2 : splitE t = 0) : moveX p f t = joinX (splitN t ++ belowN f p) := by
  rw [below_yes h]; exact if_pos ⟨h, h2⟩

theorem below_few {a b : ByteArray} : (belowN a b).length ≤ 6 := by
  have h : (splitN b).length ≤ 6 := split_few
  unfold belowN; split
  · rw [List.length_drop]; omega
  · simp

set_option maxRecDepth 100000 in
set_option maxHeartbeats 1000000 in
theorem move_val (p f t T : ByteArray) (E : Int) (w : World) (hs : p.size ≤ maxLen) (hs2 : f.size ≤ maxLen) (hs3 : t.size ≤ maxLen) (hX : moveX p f t = (T, E)) :
    Calls Try.prog 60 #[.string p, .string f, .string t] w fun e w' => e = .returned (.tuple #[.string T, .int .i64 E]) ∧ Below w.heap.size w w' := by
  have HS1 : Hid (p.size ≤ maxLen) := hs
  have HS2 : Hid (f.size ≤ maxLen) := hs2
  have HS3 : Hid (t.size ≤ maxLen) := hs3
  have hn : (belowN f p).length ≤ 6 := below_few
  obtain ⟨n, hln⟩ : ∃ n, (belowN f p).length = n := ⟨_, rfl⟩
  have HN : Hid ((belowN f p).length = n) := hln
  rw [hln] at hn
  clear hs hs2 hs3 hln
  cases hu : underB f p with
  | false =>
    rw [moveX_no (by rw [hu]; simp)] at hX
    cases hX
    have HU : Hid (underB f p = false) := hu
    clear hu
    go_enter Try.func60, Try.ntmps60
    go_wp2_with fail
    refine (below_val f p _ false n _ HS2.out HS1.out rfl HU.out HN.out).mono ?_
    rintro e w1 ⟨⟨x, b1, off, cap, rfl, hS⟩, c1⟩
    clear hS
    go_wp2
    go_ret2
    exact ⟨rfl, c1⟩
  | true =>
    have HU : Hid (underB f p = true) := hu
    by_cases ht : splitE t = 0
    · rw [moveX_yes hu ht] at hX
      have hXt : splitX t = (splitN t, 0) := by rw [splitX_pair, ht]
      have HXt : Hid (splitX t = (splitN t, 0)) := hXt
      have hft : (splitN t).length ≤ 6 := split_few
      have HJ : Hid (joinX (splitN t ++ belowN f p) = (T, E)) := hX
      have HB : Hid (belowN f p = belowN f p) := rfl
      clear hXt ht hX hu HB
      generalize splitN t = N at *
      obtain ⟨R, hR⟩ : ∃ R, belowN f p = R := ⟨_, rfl⟩
      have HR : Hid (belowN f p = R) := hR
      rw [hR] at HN HJ
      clear hR
      obtain ⟨m, hm⟩ : ∃ m, N.length = m := ⟨_, rfl⟩
      have HM : Hid (N.length = m) := hm
      rw [hm] at hft
      clear hm
      go_enter Try.func60, Try.ntmps60
      go_wp2_with fail
      refine (below_val f p R true n _ HS2.out HS1.out HR.out HU.out HN.out).mono ?_
      rintro e w1 ⟨⟨x, b1, off, cap, rfl, hS⟩, c1⟩
      go_wp2_with fail
      refine (split_val t N 0 m _ HS3.out HXt.out HM.out).mono ?_
      rintro e w2 ⟨a2, b2, cap2, rfl, hS2, c2⟩
      have cc := bel_trans c1 c2
      have hS3 := hS.below c2
      have HA : Hid (Sl w2 a2 b2 0 cap2 N) := hS2
      have HB : Hid (Sl w2 x b1 off cap R) := hS3
      clear hS hS2 hS3 c1 c2
      have halb : ∀ o, Below w2.heap.size w2 (w2.alloc o) := fun o => (Below.refl _ w2).alloc (Nat.le_refl _) o
      have HAL : Hid (∀ o, Below w2.heap.size w2 (w2.alloc o)) := halb
      clear halb
      go_wp2_with (first
        | (go_at_call 75; refine (concat_two w2.heap.size a2 x m n b2 b1 0 off cap2 cap N R _ (by simp) (by simp) (HA.out.below (HAL.out _)) (HB.out.below (HAL.out _)) HM.out HN.out (by omega) (by omega)).mono ?_; rintro e w3 ⟨a3, b3, cap3, rfl, hS4, c3⟩)
        | (go_at_call 65; refine (join_val a3 b3 0 cap3 (N ++ R) (m + n) T E _ hS4.strs (by have h := hS4.room; rw [List.length_append, HM.out, HN.out] at h; exact h) (by rw [List.length_append, HM.out, HN.out]) HJ.out).mono ?_; rintro e w4 ⟨rfl, c4⟩))
      go_ret2
      exact ⟨rfl, bel_trans cc (bel_trans (HAL.out _) (bel_trans c3 c4))⟩
    · rw [moveX_no (fun h => ht h.2)] at hX
      cases hX
      have HXt : Hid (splitX t = (splitN t, splitE t)) := splitX_pair t
      clear hu
      generalize splitN t = N at *
      generalize splitE t = E at *
      obtain ⟨m, hm⟩ : ∃ m, N.length = m := ⟨_, rfl⟩
      have HM : Hid (N.length = m) := hm
      clear hm
      go_enter Try.func60, Try.ntmps60
      go_wp2_with fail
      refine (below_val f p _ true n _ HS2.out HS1.out rfl HU.out HN.out).mono ?_
      rintro e w1 ⟨⟨x, b1, off, cap, rfl, hS⟩, c1⟩
      go_wp2_with fail
      refine (split_val t N E m _ HS3.out HXt.out HM.out).mono ?_
      rintro e w2 ⟨a2, b2, cap2, rfl, hS2, c2⟩
      have cc := bel_trans c1 c2
      clear hS hS2 c1 c2
      go_wp2
      go_ret2
      exact ⟨rfl, cc⟩

end Go.Proofs.Ytdcmhbodjmajcaa
