/- Part 10 of the proof: PathF7, PathF8, PathLM. -/
import Derived.Test.YticiihjkgiookaaGreatB06
import Derived.Test.YticiihjkgiookaaGreatB07
import Derived.Test.YticiihjkgiookaaGreatB09

/- The contracts of path.Parent and path.below. -/
namespace Go.Proofs.YticiihjkgiookaaGreat
open Go.RowKit

theorem split_few {p : ByteArray} : (splitN p).length ≤ 6 := by
  by_cases h : splitE p = 0
  · exact (split_ok h).1.few
  · rw [(split_bad h).1]; simp

theorem SplitR.use {base : Nat} {N : List ByteArray} {E : Int} {n : Nat} {e : Ending} {w' : World} (h : SplitR base (N, E) e w') (hn : N.length = n) : ∃ a b cap, e = .returned (.tuple #[.slice a n cap, .int .i64 E]) ∧ Sl w' a b 0 cap N := by
  obtain ⟨v, he, ho⟩ := h.ends
  obtain ⟨a, b, cap, rfl, hS⟩ := own_strs ho (by have := h.few; simp at this ⊢; omega) (fun x hx => by have := h.small x hx; unfold maxLen; omega)
  subst hn
  exact ⟨a, b, cap, he, hS⟩

theorem split_val (p : ByteArray) (N : List ByteArray) (E : Int) (n : Nat) (w : World) (hs : p.size ≤ maxLen) (hX : splitX p = (N, E)) (hn : N.length = n) :
    Calls Tryz.prog 72 #[.string p] w fun e w' => ∃ a b cap, e = .returned (.tuple #[.slice a n cap, .int .i64 E]) ∧ Sl w' a b 0 cap N ∧ Below w.heap.size w w' := by
  refine (split_any p _ w hs hX).mono ?_
  rintro e w1 ⟨h1, h2⟩
  obtain ⟨a, b, cap, h3, h4⟩ := h1.use hn
  exact ⟨a, b, cap, h3, h4, h2⟩

theorem splitX_pair (p : ByteArray) : splitX p = (splitN p, splitE p) := rfl

theorem join_val (a : Option Addr) (b off cap : Nat) (ss : List ByteArray) (n : Nat) (T : ByteArray) (E : Int) (w : World) (hS : Strs w a b off ss) (hcap : n ≤ cap) (hn : ss.length = n) (hX : joinX ss = (T, E)) :
    Calls Tryz.prog 128 #[.slice a n cap] w fun e w' => e = .returned (.tuple #[.string T, .int .i64 E]) ∧ Below w.heap.size w w' := by
  subst hn; exact join_any a b off cap ss (T, E) w hS hcap hX

theorem parentX_bad {p : ByteArray} (h : splitE p ≠ 0) : parentX p = (⟨#[]⟩, ⟨#[]⟩, splitE p) := if_neg h
theorem parentX_root {p : ByteArray} (h : splitE p = 0) (h2 : splitN p = []) : parentX p = (⟨#[]⟩, ⟨#[]⟩, 1) := by
  unfold parentX; rw [if_pos h, h2]; rfl
theorem parentX_last {p : ByteArray} (h : splitE p = 0) {m : Nat} (h2 : (splitN p).length = m + 1) : parentX p = (pathT ((splitN p).take m), (splitN p)[m], 0) := by
  have e : (splitN p).getLast? = some (splitN p)[m] := by
    have e0 : (splitN p).length - 1 = m := by omega
    rw [List.getLast?_eq_getElem?, e0, List.getElem?_eq_getElem (by omega)]
  have e2 : (splitN p).dropLast = (splitN p).take m := by rw [List.dropLast_eq_take, h2, Nat.add_sub_cancel]
  unfold parentX; rw [if_pos h, e, e2]

theorem good_take {ns : List ByteArray} (h : Good ns) (m : Nat) : Good (ns.take m) := by
  have e := List.take_append_drop m ns
  rw [← e] at h
  exact h.ahead

set_option maxRecDepth 100000 in
set_option maxHeartbeats 1000000 in
theorem parent_val (p d n : ByteArray) (E : Int) (w : World) (hs : p.size ≤ maxLen) (hX : parentX p = (d, n, E)) :
    Calls Tryz.prog 84 #[.string p] w fun e w' => e = .returned (.tuple #[.string d, .string n, .int .i64 E]) ∧ Below w.heap.size w w' := by
  by_cases h : splitE p = 0
  · have hX0 : splitX p = (splitN p, 0) := by rw [splitX_pair, h]
    have hf : (splitN p).length ≤ 6 := split_few
    cases hl : (splitN p).length with
    | zero =>
      rw [parentX_root h (List.length_eq_zero_iff.1 hl)] at hX
      cases hX
      have HX : Hid (splitX p = (splitN p, 0)) := hX0
      have HL : Hid ((splitN p).length = 0) := hl
      clear hl hX0 h
      generalize splitN p = N at *
      go_enter Tryz.func84, Tryz.ntmps84
      go_wp2_with fail
      refine (split_val p N 0 0 _ hs HX.out HL.out).mono ?_
      rintro e w1 ⟨a, b, cap, rfl, hS, b1⟩
      go_wp2
      go_ret3
      exact ⟨rfl, b1⟩
    | succ m =>
      rw [parentX_last h hl] at hX
      have hG := good_take (split_ok h).1 m
      have hJ := joinX_good hG
      have HX : Hid (splitX p = (splitN p, 0)) := hX0
      have HL : Hid ((splitN p).length = m + 1) := hl
      have hm : m ≤ 6 := by omega
      simp only [Prod.mk.injEq] at hX
      obtain ⟨hd, hn, rfl⟩ := hX
      rw [hd] at hJ
      have HJ : Hid (joinX ((splitN p).take m) = (d, 0)) := hJ
      have HN : Hid (∀ h : m < (splitN p).length, (splitN p)[m] = n) := fun _ => hn
      clear hl hX0 h hG hJ hd hn hf
      generalize splitN p = N at *
      go_enter Tryz.func84, Tryz.ntmps84
      go_wp2_with fail
      refine (split_val p N 0 (m + 1) _ hs HX.out HL.out).mono ?_
      rintro e w1 ⟨a, b, cap, rfl, hS, b1⟩
      obtain rfl := hS.strs.addr (by have := HL.out; omega)
      have hroom := hS.room
      rw [HL.out] at hroom
      have hlid := hS.lid
      unfold maxLen at hlid
      have HS : Hid (Sl w1 (some ⟨b, 0, none⟩) b 0 cap N) := hS
      clear hS
      go_wp2_with (go_at_call 128; refine (join_val (some ⟨b, 0, none⟩) b 0 cap (N.take m) m d 0 _ (HS.out.take m).strs (by omega) (by rw [List.length_take, HL.out]; omega) HJ.out).mono ?_; rintro e w2 ⟨rfl, b2⟩)
      have hc : w2.cell? ⟨b, m, none⟩ = some (.string n) := by
        have hlt : m < N.length := by rw [HL.out]; omega
        have h1 := (HS.out.strs.below b2).cell m hlt
        rw [Nat.zero_add, HN.out hlt] at h1
        exact h1
      have hbb := bel_trans b1 b2
      clear b1 b2 HS
      have hcd : ∀ q, (w2.drewN q).cell? ⟨b, m, none⟩ = some (.string n) := fun _ => hc
      go_quiet (fail)
      go_wp2
      go_ret3
      exact ⟨rfl, bel_trans hbb (bel_drewN _ _)⟩
  · have hX0 : splitX p = (splitN p, splitE p) := splitX_pair p
    rw [parentX_bad h] at hX
    cases hX
    obtain ⟨hN, -⟩ := split_bad h
    rw [hN] at hX0
    generalize splitE p = E at *
    have HX : Hid (splitX p = ([], E)) := hX0
    clear hX0 hN
    go_enter Tryz.func84, Tryz.ntmps84
    go_wp2_with fail
    refine (split_val p [] E 0 _ hs HX.out rfl).mono ?_
    rintro e w1 ⟨a, b, cap, rfl, hS, b1⟩
    go_wp2
    go_ret3
    exact ⟨rfl, b1⟩

/-- The names of b that stand behind a's. -/
def belowN (a b : ByteArray) : List ByteArray := if underB a b = true then (splitN b).drop (splitN a).length else []

/-- How below ends. -/
structure BelowR (R : List ByteArray) (u : Bool) (n : Nat) (e : Ending) (w' : World) : Prop where
  ends : ∃ x b off cap, e = .returned (.tuple #[.slice x n cap, .bool u]) ∧ Sl w' x b off cap R

theorem sl_nil (w : World) : Sl w none 0 0 0 [] := ⟨⟨fun h => by simp at h, fun j hj => by simp at hj, by simp, by simp⟩, .inl rfl, fun _ => rfl, by simp, by unfold maxLen; omega⟩

theorem BelowR.no {R : List ByteArray} {u : Bool} {n : Nat} {e : Ending} {w' : World} (hR : R = []) (hu : u = false) (hn : R.length = n) (he : e = .returned (.tuple #[.slice none 0 0, .bool false])) : BelowR R u n e w' := by
  subst hR hu hn
  exact ⟨⟨none, 0, 0, 0, he, sl_nil _⟩⟩

theorem below_no {a b : ByteArray} (h : underB a b = false) : belowN a b = [] := by unfold belowN; rw [h]; rfl
theorem below_yes {a b : ByteArray} (h : underB a b = true) : belowN a b = (splitN b).drop (splitN a).length := by unfold belowN; rw [h]; rfl

set_option maxRecDepth 100000 in
set_option maxHeartbeats 1000000 in
theorem below_val (a b : ByteArray) (R : List ByteArray) (u : Bool) (n : Nat) (w : World) (hs : a.size ≤ maxLen) (hs2 : b.size ≤ maxLen) (hR : belowN a b = R) (hu : underB a b = u) (hn : R.length = n) :
    Calls Tryz.prog 131 #[.string a, .string b] w fun e w' => BelowR R u n e w' ∧ Below w.heap.size w w' := by
  have HSa : Hid (a.size ≤ maxLen) := hs
  have HSb : Hid (b.size ≤ maxLen) := hs2
  have HN : Hid (R.length = n) := hn
  clear hs hs2 hn
  by_cases ha : splitE a = 0
  · by_cases hb : splitE b = 0
    · have hu2 : underB a b = decide ((splitN b).take (splitN a).length = splitN a) := by unfold underB; rw [ha, hb]; rfl
      have hXa : splitX a = (splitN a, 0) := by rw [splitX_pair, ha]
      have hXb : splitX b = (splitN b, 0) := by rw [splitX_pair, hb]
      have hfa : (splitN a).length ≤ 6 := split_few
      have hfb : (splitN b).length ≤ 6 := split_few
      have HXa : Hid (splitX a = (splitN a, 0)) := hXa
      have HXb : Hid (splitX b = (splitN b, 0)) := hXb
      have HY : Hid (underB a b = true → R = (splitN b).drop (splitN a).length) := fun h => hR.symm.trans (below_yes h)
      have HO : Hid (underB a b = false → R = []) := fun h => hR.symm.trans (below_no h)
      have HU : Hid (u = underB a b) := hu.symm
      have HU2 : Hid (underB a b = decide ((splitN b).take (splitN a).length = splitN a)) := hu2
      clear hXa hXb ha hb hR hu hu2
      generalize splitN a = A at *
      generalize splitN b = B at *
      generalize underB a b = U at *
      obtain ⟨la, hla⟩ : ∃ la, A.length = la := ⟨_, rfl⟩
      have HLA : Hid (A.length = la) := hla
      rw [hla] at hfa
      clear hla
      by_cases hlt : B.length < la
      · obtain ⟨lb, hlb⟩ : ∃ lb, B.length = lb := ⟨_, rfl⟩
        have HLB : Hid (B.length = lb) := hlb
        rw [hlb] at hlt hfb
        have HF : Hid (U = false) := by
          show _ = _
          rw [HU2.out, decide_eq_false_iff_not]
          intro e
          have h := congrArg List.length e
          rw [List.length_take, HLA.out, HLB.out] at h
          omega
        clear hlb
        go_enter Tryz.func131, Tryz.ntmps131
        go_wp2_with fail
        refine (split_val a A 0 la _ HSa.out HXa.out HLA.out).mono ?_
        rintro e w1 ⟨a1, b1, cap1, rfl, hS1, c1⟩
        go_wp2_with fail
        refine (split_val b B 0 lb _ HSb.out HXb.out HLB.out).mono ?_
        rintro e w2 ⟨a2, b2, cap2, rfl, hS2, c2⟩
        have cc := bel_trans c1 c2
        clear hS1 hS2 c1 c2
        go_wp2
        go_ret2
        exact ⟨BelowR.no (HO.out HF.out) (HU.out.trans HF.out) HN.out rfl, cc⟩
      · obtain ⟨d, hd⟩ : ∃ d, B.length = la + d := ⟨B.length - la, by omega⟩
        have HLB : Hid (B.length = la + d) := hd
        rw [hd] at hfb
        clear hd hlt
        go_enter Tryz.func131, Tryz.ntmps131
        go_wp2_with fail
        refine (split_val a A 0 la _ HSa.out HXa.out HLA.out).mono ?_
        rintro e w1 ⟨a1, b1, cap1, rfl, hS1, c1⟩
        go_wp2_with fail
        refine (split_val b B 0 (la + d) _ HSb.out HXb.out HLB.out).mono ?_
        rintro e w2 ⟨a2, b2, cap2, rfl, hS2, c2⟩
        have cc := bel_trans c1 c2
        have hS3 := hS1.below c2
        have hroom := hS2.room
        have hlid := hS2.lid
        rw [HLB.out] at hroom
        unfold maxLen at hlid
        have HS2 : Hid (Sl w2 a2 b2 0 cap2 B) := hS2
        have HS3 : Hid (Sl w2 a1 b1 0 cap1 A) := hS3
        have hLT : (B.take la).length = la := by rw [List.length_take, HLB.out]; omega
        have HLT : Hid ((B.take la).length = la) := hLT
        have HD : Hid (decide (B.take la = A) = U) := by have h := HU2.out; rw [HLA.out] at h; exact h.symm
        clear hS1 hS2 c1 c2 hS3 hLT HU2
        cases U with
        | false =>
          have HR : Hid (R = []) := HO.out rfl
          clear HO HY
          go_wp2_with (go_at_call 159; refine (equal_val _ _ b2 0 _ b1 0 _ la (B.take la) A false _ (HS2.out.take la).strs HS3.out.strs HLT.out HLA.out HD.out).mono ?_; rintro e w3 ⟨rfl, c3⟩)
          go_ret2
          exact ⟨BelowR.no HR.out HU.out HN.out rfl, bel_trans cc c3⟩
        | true =>
          have HR : Hid (R = B.drop la) := by have h := HY.out rfl; rw [HLA.out] at h; exact h
          have HND : Hid (n = d) := by show _ = _; rw [← HN.out, HR.out, List.length_drop, HLB.out]; omega
          clear HO HY
          rcases HS2.out.at2 with h | h
          · subst h
            have h0 := HS2.out.nil rfl
            subst h0
            have hla0 : la = 0 := by omega
            have hd0 : d = 0 := by omega
            subst hla0 hd0
            have HB0 : Hid (R = []) := by show _ = _; rw [HR.out]; exact List.drop_of_length_le (by rw [HLB.out]; omega)
            go_wp2_with (go_at_call 159; refine (equal_val _ _ b2 0 _ b1 0 _ 0 (B.take 0) A true _ (HS2.out.take 0).strs HS3.out.strs HLT.out HLA.out HD.out).mono ?_; rintro e w3 ⟨rfl, c3⟩)
            go_ret2
            refine ⟨⟨⟨none, 0, 0, 0, ?_, ?_⟩⟩, bel_trans cc c3⟩
            · rw [HND.out, HU.out]; rfl
            · rw [HB0.out]; exact sl_nil _
          · subst h
            go_wp2_with (go_at_call 159; refine (equal_val _ _ b2 0 _ b1 0 _ la (B.take la) A true _ (HS2.out.take la).strs HS3.out.strs HLT.out HLA.out HD.out).mono ?_; rintro e w3 ⟨rfl, c3⟩)
            · have hSd := ((HS2.out.below c3).drop0 la (by assumption))
              go_ret2
              refine ⟨⟨⟨some ⟨b2, 0, none⟩, b2, 0, 0, ?_, ?_⟩⟩, bel_trans cc c3⟩
              rotate_left
              · rw [HR.out]; exact hSd
              · rw [HND.out, HU.out]; rfl
            · have hSd := ((HS2.out.below c3).drop1 la (by rw [HLB.out]; omega))
              rw [Nat.zero_add] at hSd
              go_ret2
              refine ⟨⟨⟨some ⟨b2, la, none⟩, b2, la, cap2 - la, ?_, ?_⟩⟩, bel_trans cc c3⟩
              rotate_left
              · rw [HR.out]; exact hSd
              · rw [HND.out, HU.out]; rfl
    · have HF : Hid (underB a b = false) := by show _ = _; unfold underB; simp [hb]
      have HR : Hid (R = []) := hR.symm.trans (below_no HF.out)
      have HU : Hid (u = false) := hu.symm.trans HF.out
      have hXa : splitX a = (splitN a, 0) := by rw [splitX_pair, ha]
      have HXa : Hid (splitX a = (splitN a, 0)) := hXa
      have HXb : Hid (splitX b = (splitN b, splitE b)) := splitX_pair b
      clear HF hR hu ha hXa
      generalize splitE b = E at *
      generalize splitN a = A at *
      generalize splitN b = B at *
      obtain ⟨la, hla⟩ : ∃ la, A.length = la := ⟨_, rfl⟩
      have HLA : Hid (A.length = la) := hla
      obtain ⟨lb, hlb⟩ : ∃ lb, B.length = lb := ⟨_, rfl⟩
      have HLB : Hid (B.length = lb) := hlb
      clear hla hlb
      go_enter Tryz.func131, Tryz.ntmps131
      go_wp2_with fail
      refine (split_val a A 0 la _ HSa.out HXa.out HLA.out).mono ?_
      rintro e w1 ⟨a1, b1, cap1, rfl, hS1, c1⟩
      go_wp2_with fail
      refine (split_val b B E lb _ HSb.out HXb.out HLB.out).mono ?_
      rintro e w2 ⟨a2, b2, cap2, rfl, hS2, c2⟩
      have cc := bel_trans c1 c2
      clear hS1 hS2 c1 c2
      go_wp2
      go_ret2
      exact ⟨BelowR.no HR.out HU.out HN.out rfl, cc⟩
  · have HF : Hid (underB a b = false) := by show _ = _; unfold underB; simp [ha]
    have HR : Hid (R = []) := hR.symm.trans (below_no HF.out)
    have HU : Hid (u = false) := hu.symm.trans HF.out
    have HXa : Hid (splitX a = (splitN a, splitE a)) := splitX_pair a
    clear HF hR hu
    generalize splitE a = E at *
    generalize splitN a = A at *
    obtain ⟨la, hla⟩ : ∃ la, A.length = la := ⟨_, rfl⟩
    have HLA : Hid (A.length = la) := hla
    clear hla
    go_enter Tryz.func131, Tryz.ntmps131
    go_wp2_with fail
    refine (split_val a A E la _ HSa.out HXa.out HLA.out).mono ?_
    rintro e w1 ⟨a1, b1, cap1, rfl, hS1, c1⟩
    clear hS1
    go_wp2
    go_ret2
    exact ⟨BelowR.no HR.out HU.out HN.out rfl, c1⟩

end Go.Proofs.YticiihjkgiookaaGreat

/- The contracts of path.Under and path.Move. -/
namespace Go.Proofs.YticiihjkgiookaaGreat
open Go.RowKit

set_option maxRecDepth 100000 in
theorem under_val (a b : ByteArray) (u : Bool) (w : World) (hs : a.size ≤ maxLen) (hs2 : b.size ≤ maxLen) (hu : underB a b = u) :
    Calls Tryz.prog 91 #[.string a, .string b] w fun e w' => e = .returned (.bool u) ∧ Below w.heap.size w w' := by
  obtain ⟨n, hn⟩ : ∃ n, (belowN a b).length = n := ⟨_, rfl⟩
  have HN : Hid ((belowN a b).length = n) := hn
  have HU : Hid (underB a b = u) := hu
  clear hn hu
  go_enter Tryz.func91, Tryz.ntmps91
  go_wp2_with fail
  refine (below_val a b _ u n _ hs hs2 rfl HU.out HN.out).mono ?_
  rintro e w1 ⟨⟨x, b1, off, cap, rfl, hS⟩, c1⟩
  clear hS
  go_wp2
  go_ret
  exact ⟨rfl, c1⟩

theorem concat_two (g : Nat) (a1 a2 : Option Addr) (n1 n2 b1 b2 f1 f2 c1 c2 : Nat) (s1 s2 : List ByteArray) (w : World) (h0 : w.cell? ⟨g, 0, none⟩ = some (.slice a1 n1 c1)) (h1 : w.cell? ⟨g, 1, none⟩ = some (.slice a2 n2 c2))
    (S1 : Sl w a1 b1 f1 c1 s1) (S2 : Sl w a2 b2 f2 c2 s2) (hn1 : s1.length = n1) (hn2 : s2.length = n2) (hl1 : n1 ≤ 100) (hl2 : n2 ≤ 100) :
    Calls Tryz.prog 160 #[.slice (some ⟨g, 0, none⟩) 2 2] w fun e w' => ∃ a b cap, e = .returned (.slice a (n1 + n2) cap) ∧ Sl w' a b 0 cap (s1 ++ s2) ∧ Below w.heap.size w w' := by
  refine (concat_any g (fun k => if k = 0 then a1 else a2) (fun k => if k = 0 then n1 else n2) (fun k => if k = 0 then b1 else b2) (fun k => if k = 0 then f1 else f2) (fun k => if k = 0 then c1 else c2) (fun k => if k = 0 then s1 else s2) w ?_ ?_ ?_ ?_).mono ?_
  · intro k hk
    match k, hk with
    | 0, _ => exact h0
    | 1, _ => exact h1
  · intro k hk
    match k, hk with
    | 0, _ => exact S1
    | 1, _ => exact S2
  · intro k hk
    match k, hk with
    | 0, _ => exact hn1
    | 1, _ => exact hn2
  · intro k hk
    match k, hk with
    | 0, _ => exact hl1
    | 1, _ => exact hl2
  · rintro e w' ⟨⟨v, rfl, ho⟩, hb⟩
    have hc : catS (fun k => if k = 0 then s1 else s2) 2 = s1 ++ s2 := by simp [catS]
    rw [hc] at ho
    obtain ⟨a, b, cap, rfl, hS⟩ := own_strs ho (by rw [List.length_append]; omega) (fun x hx => by
      rcases List.mem_append.1 hx with hx | hx
      · exact S1.strs.small x hx
      · exact S2.strs.small x hx)
    rw [List.length_append, hn1, hn2]
    exact ⟨a, b, cap, rfl, hS, hb⟩

theorem moveX_no {p f t : ByteArray} (h : ¬ (underB f p = true ∧ splitE t = 0)) : moveX p f t = (⟨#[]⟩, 1) := if_neg h
theorem moveX_yes {p f t : ByteArray} (h : underB f p = true) (h2 : splitE t = 0) : moveX p f t = joinX (splitN t ++ belowN f p) := by
  rw [below_yes h]; exact if_pos ⟨h, h2⟩

theorem below_few {a b : ByteArray} : (belowN a b).length ≤ 6 := by
  have h : (splitN b).length ≤ 6 := split_few
  unfold belowN; split
  · rw [List.length_drop]; omega
  · simp

set_option maxRecDepth 100000 in
set_option maxHeartbeats 1000000 in
theorem move_val (p f t T : ByteArray) (E : Int) (w : World) (hs : p.size ≤ maxLen) (hs2 : f.size ≤ maxLen) (hs3 : t.size ≤ maxLen) (hX : moveX p f t = (T, E)) :
    Calls Tryz.prog 135 #[.string p, .string f, .string t] w fun e w' => e = .returned (.tuple #[.string T, .int .i64 E]) ∧ Below w.heap.size w w' := by
  have HS1 : Hid (p.size ≤ maxLen) := hs
  have HS2 : Hid (f.size ≤ maxLen) := hs2
  have HS3 : Hid (t.size ≤ maxLen) := hs3
  have hn : (belowN f p).length ≤ 6 := below_few
  obtain ⟨n, hln⟩ : ∃ n, (belowN f p).length = n := ⟨_, rfl⟩
  have HN : Hid ((belowN f p).length = n) := hln
  rw [hln] at hn
  clear hs hs2 hs3 hln
  cases hu : underB f p with
  | false =>
    rw [moveX_no (by rw [hu]; simp)] at hX
    cases hX
    have HU : Hid (underB f p = false) := hu
    clear hu
    go_enter Tryz.func135, Tryz.ntmps135
    go_wp2_with fail
    refine (below_val f p _ false n _ HS2.out HS1.out rfl HU.out HN.out).mono ?_
    rintro e w1 ⟨⟨x, b1, off, cap, rfl, hS⟩, c1⟩
    clear hS
    go_wp2
    go_ret2
    exact ⟨rfl, c1⟩
  | true =>
    have HU : Hid (underB f p = true) := hu
    by_cases ht : splitE t = 0
    · rw [moveX_yes hu ht] at hX
      have hXt : splitX t = (splitN t, 0) := by rw [splitX_pair, ht]
      have HXt : Hid (splitX t = (splitN t, 0)) := hXt
      have hft : (splitN t).length ≤ 6 := split_few
      have HJ : Hid (joinX (splitN t ++ belowN f p) = (T, E)) := hX
      have HB : Hid (belowN f p = belowN f p) := rfl
      clear hXt ht hX hu HB
      generalize splitN t = N at *
      obtain ⟨R, hR⟩ : ∃ R, belowN f p = R := ⟨_, rfl⟩
      have HR : Hid (belowN f p = R) := hR
      rw [hR] at HN HJ
      clear hR
      obtain ⟨m, hm⟩ : ∃ m, N.length = m := ⟨_, rfl⟩
      have HM : Hid (N.length = m) := hm
      rw [hm] at hft
      clear hm
      go_enter Tryz.func135, Tryz.ntmps135
      go_wp2_with fail
      refine (below_val f p R true n _ HS2.out HS1.out HR.out HU.out HN.out).mono ?_
      rintro e w1 ⟨⟨x, b1, off, cap, rfl, hS⟩, c1⟩
      go_wp2_with fail
      refine (split_val t N 0 m _ HS3.out HXt.out HM.out).mono ?_
      rintro e w2 ⟨a2, b2, cap2, rfl, hS2, c2⟩
      have cc := bel_trans c1 c2
      have hS3 := hS.below c2
      have HA : Hid (Sl w2 a2 b2 0 cap2 N) := hS2
      have HB : Hid (Sl w2 x b1 off cap R) := hS3
      clear hS hS2 hS3 c1 c2
      have halb : ∀ o, Below w2.heap.size w2 (w2.alloc o) := fun o => (Below.refl _ w2).alloc (Nat.le_refl _) o
      have HAL : Hid (∀ o, Below w2.heap.size w2 (w2.alloc o)) := halb
      clear halb
      go_wp2_with (first
        | (go_at_call 160; refine (concat_two w2.heap.size a2 x m n b2 b1 0 off cap2 cap N R _ (by simp) (by simp) (HA.out.below (HAL.out _)) (HB.out.below (HAL.out _)) HM.out HN.out (by omega) (by omega)).mono ?_; rintro e w3 ⟨a3, b3, cap3, rfl, hS4, c3⟩)
        | (go_at_call 128; refine (join_val a3 b3 0 cap3 (N ++ R) (m + n) T E _ hS4.strs (by have h := hS4.room; rw [List.length_append, HM.out, HN.out] at h; exact h) (by rw [List.length_append, HM.out, HN.out]) HJ.out).mono ?_; rintro e w4 ⟨rfl, c4⟩))
      go_ret2
      exact ⟨rfl, bel_trans cc (bel_trans (HAL.out _) (bel_trans c3 c4))⟩
    · rw [moveX_no (fun h => ht h.2)] at hX
      cases hX
      have HXt : Hid (splitX t = (splitN t, splitE t)) := splitX_pair t
      clear hu
      generalize splitN t = N at *
      generalize splitE t = E at *
      obtain ⟨m, hm⟩ : ∃ m, N.length = m := ⟨_, rfl⟩
      have HM : Hid (N.length = m) := hm
      clear hm
      go_enter Tryz.func135, Tryz.ntmps135
      go_wp2_with fail
      refine (below_val f p _ true n _ HS2.out HS1.out rfl HU.out HN.out).mono ?_
      rintro e w1 ⟨⟨x, b1, off, cap, rfl, hS⟩, c1⟩
      go_wp2_with fail
      refine (split_val t N E m _ HS3.out HXt.out HM.out).mono ?_
      rintro e w2 ⟨a2, b2, cap2, rfl, hS2, c2⟩
      have cc := bel_trans c1 c2
      clear hS hS2 c1 c2
      go_wp2
      go_ret2
      exact ⟨rfl, cc⟩

end Go.Proofs.YticiihjkgiookaaGreat

/- Plain facts on paths: what is joined is split, under, moved there and back. -/
namespace Go.Proofs.YticiihjkgiookaaGreat

theorem pathT_small {ns : List ByteArray} (h : Good ns) : (pathT ns).size ≤ 120 := by
  rw [pathT_size]; split
  · omega
  · exact h.short

theorem joinX_ok {ns : List ByteArray} {q : ByteArray} (h : joinX ns = (q, 0)) : Good ns ∧ q = pathT ns := by
  rcases joinX_cases ns with ⟨g, e⟩ | ⟨_, e, _⟩ | ⟨_, e, _⟩
  · rw [e] at h; cases h; exact ⟨g, rfl⟩
  · rw [e] at h; cases h
  · rw [e] at h; cases h

theorem joinX_empty {ns : List ByteArray} {q : ByteArray} {E : Int} (h : joinX ns = (q, E)) (hE : E ≠ 0) : q = ⟨#[]⟩ := by
  rcases joinX_cases ns with ⟨g, e⟩ | ⟨_, e, _⟩ | ⟨_, e, _⟩
  · rw [e] at h; cases h; exact absurd rfl hE
  · rw [e] at h; cases h; rfl
  · rw [e] at h; cases h; rfl

theorem splitX_ok {p : ByteArray} (h : splitE p = 0) : p = pathT (splitN p) := (split_ok h).2

theorem moveX_empty {p f t q : ByteArray} {E : Int} (h : moveX p f t = (q, E)) (hE : E ≠ 0) : q = ⟨#[]⟩ := by
  unfold moveX at h
  split at h
  · exact joinX_empty h hE
  · cases h; rfl

theorem move_back {p f t q : ByteArray} (h : moveX p f t = (q, 0)) : moveX q t f = (p, 0) ∧ underB t q = true ∧ q.size ≤ 120 := by
  unfold moveX at h
  split at h
  · rename_i hg
    obtain ⟨hu, ht⟩ := hg
    obtain ⟨hf, hp, hpre⟩ := underB_iff.1 hu
    obtain ⟨g, rfl⟩ := joinX_ok h
    obtain ⟨R, hR⟩ := hpre
    have hd : (splitN p).drop (splitN f).length = R := by rw [← hR, List.drop_left]
    rw [hd] at g ⊢
    have hN := splitN_good g
    have hE := splitE_good g
    have hut : underB t (pathT (splitN t ++ R)) = true := underB_iff.2 ⟨ht, hE, by rw [hN]; exact List.prefix_append _ _⟩
    refine ⟨?_, hut, pathT_small g⟩
    rw [moveX, if_pos ⟨hut, hf⟩, hN, List.drop_left, hR, joinX_good (split_ok hp).1, ← splitX_ok hp]
  · cases h

theorem under_trans {a b c : ByteArray} (h : underB a b = true) (k : underB b c = true) : underB a c = true := by
  obtain ⟨h1, h2, h3⟩ := underB_iff.1 h
  obtain ⟨k1, k2, k3⟩ := underB_iff.1 k
  exact underB_iff.2 ⟨h1, k2, h3.trans k3⟩

theorem under_both {a b : ByteArray} (h : underB a b = true) (k : underB b a = true) : a = b := by
  obtain ⟨h1, h2, h3⟩ := underB_iff.1 h
  obtain ⟨k1, k2, k3⟩ := underB_iff.1 k
  have e : splitN a = splitN b := h3.eq_of_length (Nat.le_antisymm h3.length_le k3.length_le)
  rw [splitX_ok h1, splitX_ok h2, e]

theorem parent_bad {p d n : ByteArray} {E : Int} (h : parentX p = (d, n, E)) (hE : E ≠ 0) : splitE p ≠ 0 ∨ (p.toList == [47]) = true := by
  by_cases h0 : splitE p = 0
  · right
    cases hl : (splitN p).length with
    | zero =>
      have e : splitN p = [] := List.length_eq_zero_iff.1 hl
      have hp := splitX_ok h0
      rw [e, pathT_nil] at hp
      rw [hp, Lib.toList_data]; rfl
    | succ m =>
      rw [parentX_last h0 hl] at h
      cases h
      exact absurd rfl hE
  · exact .inl h0

theorem exR0 : splitN ⟨#[47]⟩ = [] ∧ splitE ⟨#[47]⟩ = 0 := by
  have h : splitX ⟨#[47]⟩ = ([], 0) := splitX_good good_nil
  exact ⟨by unfold splitN; rw [h], by unfold splitE; rw [h]⟩

theorem parent_ok {p d n : ByteArray} (h : parentX p = (d, n, 0)) : splitE p = 0 ∧ splitE d = 0 ∧ splitN p = splitN d ++ [n] ∧ nameB n = true ∧ Good (splitN p) ∧ d.size ≤ 120 ∧ n.size ≤ 20 := by
  by_cases h0 : splitE p = 0
  · cases hl : (splitN p).length with
    | zero =>
      rw [parentX_root h0 (List.length_eq_zero_iff.1 hl)] at h
      cases h
    | succ m =>
      rw [parentX_last h0 hl] at h
      have g := (split_ok h0).1
      have gt := good_take g m
      have hm : m < (splitN p).length := by omega
      cases h
      have hnm := g.names _ (List.getElem_mem hm)
      refine ⟨h0, splitE_good gt, ?_, hnm, g, pathT_small gt, ?_⟩
      · rw [splitN_good gt, ← List.take_succ_eq_append_getElem hm, List.take_of_length_le (by omega)]
      · have := nameL_len hnm
        rw [list_sz] at this; exact this.2
  · rw [parentX_bad h0] at h
    simp only [Prod.mk.injEq] at h
    exact absurd h.2.2 h0

theorem parent_unders {p d n : ByteArray} (h : parentX p = (d, n, 0)) : underB d p = true ∧ underB p p = true ∧ underB p d = false ∧ nameB n = true ∧ underB ⟨#[47]⟩ p = true ∧ d.size ≤ 120 ∧ n.size ≤ 20 := by
  obtain ⟨h1, h2, h3, h4, h5, h6, h7⟩ := parent_ok h
  refine ⟨underB_iff.2 ⟨h2, h1, by rw [h3]; exact List.prefix_append _ _⟩, underB_iff.2 ⟨h1, h1, List.prefix_refl _⟩, ?_, h4, underB_iff.2 ⟨exR0.2, h1, by rw [exR0.1]; exact List.nil_prefix⟩, h6, h7⟩
  rw [Bool.eq_false_iff]
  intro e
  obtain ⟨_, _, k⟩ := underB_iff.1 e
  have := k.length_le
  rw [h3, List.length_append, List.length_cons] at this
  omega

theorem parent_join {p d n : ByteArray} (h : parentX p = (d, n, 0)) : joinX (splitN d ++ [n]) = (p, 0) := by
  obtain ⟨h1, h2, h3, h4, h5, h6, h7⟩ := parent_ok h
  rw [← h3, joinX_good h5, ← splitX_ok h1]

theorem more_join {p name q : ByteArray} (h : splitE p = 0) (hj : joinX (splitN p ++ [name]) = (q, 0)) : nameB name = true ∧ underB p q = true ∧ underB q p = false ∧ name.size < q.size ∧ q.size ≤ 120 := by
  obtain ⟨g, rfl⟩ := joinX_ok hj
  have hN := splitN_good g
  have hE := splitE_good g
  refine ⟨g.names name (by simp), underB_iff.2 ⟨h, hE, by rw [hN]; exact List.prefix_append _ _⟩, ?_, ?_, pathT_small g⟩
  · rw [Bool.eq_false_iff]
    intro e
    obtain ⟨_, _, k⟩ := underB_iff.1 e
    have := k.length_le
    rw [hN, List.length_append, List.length_cons] at this
    omega
  · rw [pathT_size, if_neg (by simp), pathL_app, List.length_append, pathL_cons, List.length_cons, List.length_append, list_sz]
    omega

theorem more_bad {p name q : ByteArray} {E : Int} (h : splitE p = 0) (hj : joinX (splitN p ++ [name]) = (q, E)) (hE : E ≠ 0) : (nameB name = false ∧ E = 1) ∨ (nameB name = true ∧ E = 4) := by
  have hA : (splitN p).all nameB = true := List.all_eq_true.2 (split_ok h).1.names
  rcases joinX_cases (splitN p ++ [name]) with ⟨g, e⟩ | ⟨_, e, k⟩ | ⟨_, e, k⟩
  · rw [e] at hj; cases hj; exact absurd rfl hE
  · rw [e] at hj; cases hj
    rw [List.all_append, hA] at k
    left
    simpa using k
  · rw [e] at hj; cases hj
    rw [List.all_append, hA] at k
    right
    simpa using k

end Go.Proofs.YticiihjkgiookaaGreat
