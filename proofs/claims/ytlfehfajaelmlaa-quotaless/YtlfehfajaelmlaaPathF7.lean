/- The contracts of path.Parent and path.below. -/
import Derived.Test.YtlfehfajaelmlaaPathF3
import Derived.Test.YtlfehfajaelmlaaPathF4
import Derived.Test.YtlfehfajaelmlaaPathF5
namespace Go.Proofs.Ytlfehfajaelmlaa
open Go.RowKit

theorem split_few {p : ByteArray} : (splitN p).length ≤ 6 := by
  by_cases h : splitE p = 0
  · exact (split_ok h).1.few
  · rw [(split_bad h).1]; simp

theorem SplitR.use {base : Nat} {N : List ByteArray} {E : Int} {n : Nat} {e : Ending} {w' : World} (h : SplitR base (N, E) e w') (hn : N.length = n) : ∃ a b cap, e = .returned (.tuple #[.slice a n cap, .int .i64 E]) ∧ Sl w' a b 0 cap N := by
  obtain ⟨v, he, ho⟩ := h.ends
  obtain ⟨a, b, cap, rfl, hS⟩ := own_strs ho (by have := h.few; simp at this ⊢; omega) (fun x hx => by have := h.small x hx; unfold maxLen; omega)
  subst hn
  exact ⟨a, b, cap, he, hS⟩

theorem split_val (p : ByteArray) (N : List ByteArray) (E : Int) (n : Nat) (w : World) (hs : p.size ≤ maxLen) (hX : splitX p = (N, E)) (hn : N.length = n) :
    Calls Try.prog 51 #[.string p] w fun e w' => ∃ a b cap, e = .returned (.tuple #[.slice a n cap, .int .i64 E]) ∧ Sl w' a b 0 cap N ∧ Below w.heap.size w w' := by
  refine (split_any p _ w hs hX).mono ?_
  rintro e w1 ⟨h1, h2⟩
  obtain ⟨a, b, cap, h3, h4⟩ := h1.use hn
  exact ⟨a, b, cap, h3, h4, h2⟩

theorem splitX_pair (p : ByteArray) : splitX p = (splitN p, splitE p) := rfl

theorem join_val (a : Option Addr) (b off cap : Nat) (ss : List ByteArray) (n : Nat) (T : ByteArray) (E : Int) (w : World) (hS : Strs w a b off ss) (hcap : n ≤ cap) (hn : ss.length = n) (hX : joinX ss = (T, E)) :
    Calls Try.prog 53 #[.slice a n cap] w fun e w' => e = .returned (.tuple #[.string T, .int .i64 E]) ∧ Below w.heap.size w w' := by
  subst hn; exact join_any a b off cap ss (T, E) w hS hcap hX

theorem parentX_bad {p : ByteArray} (h : splitE p ≠ 0) : parentX p = (⟨#[]⟩, ⟨#[]⟩, splitE p) := if_neg h
theorem parentX_root {p : ByteArray} (h : splitE p = 0) (h2 : splitN p = []) : parentX p = (⟨#[]⟩, ⟨#[]⟩, 1) := by
  unfold parentX; rw [if_pos h, h2]; rfl
theorem parentX_last {p : ByteArray} (h : splitE p = 0) {m : Nat} (h2 : (splitN p).length = m + 1) : parentX p = (pathT ((splitN p).take m), (splitN p)[m], 0) := by
  have e : (splitN p).getLast? = some (splitN p)[m] := by
    have e0 : (splitN p).length - 1 = m := by omega
    rw [List.getLast?_eq_getElem?, e0, List.getElem?_eq_getElem (by omega)]
  have e2 : (splitN p).dropLast = (splitN p).take m := by rw [List.dropLast_eq_take, h2, Nat.add_sub_cancel]
  unfold parentX; rw [if_pos h, e, e2]

theorem good_take {ns : List ByteArray} (h : Good ns) (m : Nat) : Good (ns.take m) := by
  have e := List.take_append_drop m ns
  rw [← e] at h
  exact h.ahead

set_option maxRecDepth 100000 in
set_option maxHeartbeats 1000000 in
theorem parent_val (p d n : ByteArray) (E : Int) (w : World) (hs : p.size ≤ maxLen) (hX : parentX p = (d, n, E)) :
    Calls Try.prog 39 #[.string p] w fun e w' => e = .returned (.tuple #[.string d, .string n, .int .i64 E]) ∧ Below w.heap.size w w' := by
  by_cases h : splitE p = 0
  · have hX0 : splitX p = (splitN p, 0) := by rw [splitX_pair, h]
    have hf : (splitN p).length ≤ 6 := split_few
    cases hl : (splitN p).length with
    | zero =>
      rw [parentX_root h (List.length_eq_zero_iff.1 hl)] at hX
      cases hX
      have HX : Hid (splitX p = (splitN p, 0)) := hX0
      have HL : Hid ((splitN p).length = 0) := hl
      clear hl hX0 h
      generalize splitN p = N at *
      go_enter Try.func39, Try.ntmps39
      go_wp2_with fail
      refine (split_val p N 0 0 _ hs HX.out HL.out).mono ?_
      rintro e w1 ⟨a, b, cap, rfl, hS, b1⟩
      go_wp2
      go_ret3
      exact ⟨rfl, b1⟩
    | succ m =>
      rw [parentX_last h hl] at hX
      have hG := good_take (split_ok h).1 m
      have hJ := joinX_good hG
      have HX : Hid (splitX p = (splitN p, 0)) := hX0
      have HL : Hid ((splitN p).length = m + 1) := hl
      have hm : m ≤ 6 := by omega
      simp only [Prod.mk.injEq] at hX
      obtain ⟨hd, hn, rfl⟩ := hX
      rw [hd] at hJ
      have HJ : Hid (joinX ((splitN p).take m) = (d, 0)) := hJ
      have HN : Hid (∀ h : m < (splitN p).length, (splitN p)[m] = n) := fun _ => hn
      clear hl hX0 h hG hJ hd hn hf
      generalize splitN p = N at *
      go_enter Try.func39, Try.ntmps39
      go_wp2_with fail
      refine (split_val p N 0 (m + 1) _ hs HX.out HL.out).mono ?_
      rintro e w1 ⟨a, b, cap, rfl, hS, b1⟩
      obtain rfl := hS.strs.addr (by have := HL.out; omega)
      have hroom := hS.room
      rw [HL.out] at hroom
      have hlid := hS.lid
      unfold maxLen at hlid
      have HS : Hid (Sl w1 (some ⟨b, 0, none⟩) b 0 cap N) := hS
      clear hS
      go_wp2_with (go_at_call 53; refine (join_val (some ⟨b, 0, none⟩) b 0 cap (N.take m) m d 0 _ (HS.out.take m).strs (by omega) (by rw [List.length_take, HL.out]; omega) HJ.out).mono ?_; rintro e w2 ⟨rfl, b2⟩)
      have hc : w2.cell? ⟨b, m, none⟩ = some (.string n) := by
        have hlt : m < N.length := by rw [HL.out]; omega
        have h1 := (HS.out.strs.below b2).cell m hlt
        rw [Nat.zero_add, HN.out hlt] at h1
        exact h1
      have hbb := bel_trans b1 b2
      clear b1 b2 HS
      have hcd : ∀ q, (w2.drewN q).cell? ⟨b, m, none⟩ = some (.string n) := fun _ => hc
      go_quiet (fail)
      go_wp2
      go_ret3
      exact ⟨rfl, bel_trans hbb (bel_drewN _ _)⟩
  · have hX0 : splitX p = (splitN p, splitE p) := splitX_pair p
    rw [parentX_bad h] at hX
    cases hX
    obtain ⟨hN, -⟩ := split_bad h
    rw [hN] at hX0
    generalize splitE p = E at *
    have HX : Hid (splitX p = ([], E)) := hX0
    clear hX0 hN
    go_enter Try.func39, Try.ntmps39
    go_wp2_with fail
    refine (split_val p [] E 0 _ hs HX.out rfl).mono ?_
    rintro e w1 ⟨a, b, cap, rfl, hS, b1⟩
    go_wp2
    go_ret3
    exact ⟨rfl, b1⟩

/-- The names of b that stand behind a's. -/
def belowN (a b : ByteArray) : List ByteArray := if underB a b = true then (splitN b).drop (splitN a).length else []

/-- How below ends. -/
structure BelowR (R : List ByteArray) (u : Bool) (n : Nat) (e : Ending) (w' : World) : Prop where
  ends : ∃ x b off cap, e = .returned (.tuple #[.slice x n cap, .bool u]) ∧ Sl w' x b off cap R

theorem sl_nil (w : World) : Sl w none 0 0 0 [] := ⟨⟨fun h => by simp at h, fun j hj => by simp at hj, by simp, by simp⟩, .inl rfl, fun _ => rfl, by simp, by unfold maxLen; omega⟩

theorem BelowR.no {R : List ByteArray} {u : Bool} {n : Nat} {e : Ending} {w' : World} (hR : R = []) (hu : u = false) (hn : R.length = n) (he : e = .returned (.tuple #[.slice none 0 0, .bool false])) : BelowR R u n e w' := by
  subst hR hu hn
  exact ⟨⟨none, 0, 0, 0, he, sl_nil _⟩⟩

theorem below_no {a b : ByteArray} (h : underB a b = false) : belowN a b = [] := by unfold belowN; rw [h]; rfl
theorem below_yes {a b : ByteArray} (h : underB a b = true) : belowN a b = (splitN b).drop (splitN a).length := by unfold belowN; rw [h]; rfl

set_option maxRecDepth 100000 in
set_option maxHeartbeats 1000000 in
theorem below_val (a b : ByteArray) (R : List ByteArray) (u : Bool) (n : Nat) (w : World) (hs : a.size ≤ maxLen) (hs2 : b.size ≤ maxLen) (hR : belowN a b = R) (hu : underB a b = u) (hn : R.length = n) :
    Calls Try.prog 44 #[.string a, .string b] w fun e w' => BelowR R u n e w' ∧ Below w.heap.size w w' := by
  have HSa : Hid (a.size ≤ maxLen) := hs
  have HSb : Hid (b.size ≤ maxLen) := hs2
  have HN : Hid (R.length = n) := hn
  clear hs hs2 hn
  by_cases ha : splitE a = 0
  · by_cases hb : splitE b = 0
    · have hu2 : underB a b = decide ((splitN b).take (splitN a).length = splitN a) := by unfold underB; rw [ha, hb]; rfl
      have hXa : splitX a = (splitN a, 0) := by rw [splitX_pair, ha]
      have hXb : splitX b = (splitN b, 0) := by rw [splitX_pair, hb]
      have hfa : (splitN a).length ≤ 6 := split_few
      have hfb : (splitN b).length ≤ 6 := split_few
      have HXa : Hid (splitX a = (splitN a, 0)) := hXa
      have HXb : Hid (splitX b = (splitN b, 0)) := hXb
      have HY : Hid (underB a b = true → R = (splitN b).drop (splitN a).length) := fun h => hR.symm.trans (below_yes h)
      have HO : Hid (underB a b = false → R = []) := fun h => hR.symm.trans (below_no h)
      have HU : Hid (u = underB a b) := hu.symm
      have HU2 : Hid (underB a b = decide ((splitN b).take (splitN a).length = splitN a)) := hu2
      clear hXa hXb ha hb hR hu hu2
      generalize splitN a = A at *
      generalize splitN b = B at *
      generalize underB a b = U at *
      obtain ⟨la, hla⟩ : ∃ la, A.length = la := ⟨_, rfl⟩
      have HLA : Hid (A.length = la) := hla
      rw [hla] at hfa
      clear hla
      by_cases hlt : B.length < la
      · obtain ⟨lb, hlb⟩ : ∃ lb, B.length = lb := ⟨_, rfl⟩
        have HLB : Hid (B.length = lb) := hlb
        rw [hlb] at hlt hfb
        have HF : Hid (U = false) := by
          show _ = _
          rw [HU2.out, decide_eq_false_iff_not]
          intro e
          have h := congrArg List.length e
          rw [List.length_take, HLA.out, HLB.out] at h
          omega
        clear hlb
        go_enter Try.func44, Try.ntmps44
        go_wp2_with fail
        refine (split_val a A 0 la _ HSa.out HXa.out HLA.out).mono ?_
        rintro e w1 ⟨a1, b1, cap1, rfl, hS1, c1⟩
        go_wp2_with fail
        refine (split_val b B 0 lb _ HSb.out HXb.out HLB.out).mono ?_
        rintro e w2 ⟨a2, b2, cap2, rfl, hS2, c2⟩
        have cc := bel_trans c1 c2
        clear hS1 hS2 c1 c2
        go_wp2
        go_ret2
        exact ⟨BelowR.no (HO.out HF.out) (HU.out.trans HF.out) HN.out rfl, cc⟩
      · obtain ⟨d, hd⟩ : ∃ d, B.length = la + d := ⟨B.length - la, by omega⟩
        have HLB : Hid (B.length = la + d) := hd
        rw [hd] at hfb
        clear hd hlt
        go_enter Try.func44, Try.ntmps44
        go_wp2_with fail
        refine (split_val a A 0 la _ HSa.out HXa.out HLA.out).mono ?_
        rintro e w1 ⟨a1, b1, cap1, rfl, hS1, c1⟩
        go_wp2_with fail
        refine (split_val b B 0 (la + d) _ HSb.out HXb.out HLB.out).mono ?_
        rintro e w2 ⟨a2, b2, cap2, rfl, hS2, c2⟩
        have cc := bel_trans c1 c2
        have hS3 := hS1.below c2
        have hroom := hS2.room
        have hlid := hS2.lid
        rw [HLB.out] at hroom
        unfold maxLen at hlid
        have HS2 : Hid (Sl w2 a2 b2 0 cap2 B) := hS2
        have HS3 : Hid (Sl w2 a1 b1 0 cap1 A) := hS3
        have hLT : (B.take la).length = la := by rw [List.length_take, HLB.out]; omega
        have HLT : Hid ((B.take la).length = la) := hLT
        have HD : Hid (decide (B.take la = A) = U) := by have h := HU2.out; rw [HLA.out] at h; exact h.symm
        clear hS1 hS2 c1 c2 hS3 hLT HU2
        cases U with
        | false =>
          have HR : Hid (R = []) := HO.out rfl
          clear HO HY
          go_wp2_with (go_at_call 56; refine (equal_val _ _ b2 0 _ b1 0 _ la (B.take la) A false _ (HS2.out.take la).strs HS3.out.strs HLT.out HLA.out HD.out).mono ?_; rintro e w3 ⟨rfl, c3⟩)
          go_ret2
          exact ⟨BelowR.no HR.out HU.out HN.out rfl, bel_trans cc c3⟩
        | true =>
          have HR : Hid (R = B.drop la) := by have h := HY.out rfl; rw [HLA.out] at h; exact h
          have HND : Hid (n = d) := by show _ = _; rw [← HN.out, HR.out, List.length_drop, HLB.out]; omega
          clear HO HY
          rcases HS2.out.at2 with h | h
          · subst h
            have h0 := HS2.out.nil rfl
            subst h0
            have hla0 : la = 0 := by omega
            have hd0 : d = 0 := by omega
            subst hla0 hd0
            have HB0 : Hid (R = []) := by show _ = _; rw [HR.out]; exact List.drop_of_length_le (by rw [HLB.out]; omega)
            go_wp2_with (go_at_call 56; refine (equal_val _ _ b2 0 _ b1 0 _ 0 (B.take 0) A true _ (HS2.out.take 0).strs HS3.out.strs HLT.out HLA.out HD.out).mono ?_; rintro e w3 ⟨rfl, c3⟩)
            go_ret2
            refine ⟨⟨⟨none, 0, 0, 0, ?_, ?_⟩⟩, bel_trans cc c3⟩
            · rw [HND.out, HU.out]; rfl
            · rw [HB0.out]; exact sl_nil _
          · subst h
            go_wp2_with (go_at_call 56; refine (equal_val _ _ b2 0 _ b1 0 _ la (B.take la) A true _ (HS2.out.take la).strs HS3.out.strs HLT.out HLA.out HD.out).mono ?_; rintro e w3 ⟨rfl, c3⟩)
            · have hSd := ((HS2.out.below c3).drop0 la (by assumption))
              go_ret2
              refine ⟨⟨⟨some ⟨b2, 0, none⟩, b2, 0, 0, ?_, ?_⟩⟩, bel_trans cc c3⟩
              rotate_left
              · rw [HR.out]; exact hSd
              · rw [HND.out, HU.out]; rfl
            · have hSd := ((HS2.out.below c3).drop1 la (by rw [HLB.out]; omega))
              rw [Nat.zero_add] at hSd
              go_ret2
              refine ⟨⟨⟨some ⟨b2, la, none⟩, b2, la, cap2 - la, ?_, ?_⟩⟩, bel_trans cc c3⟩
              rotate_left
              · rw [HR.out]; exact hSd
              · rw [HND.out, HU.out]; rfl
    · have HF : Hid (underB a b = false) := by show _ = _; unfold underB; simp [hb]
      have HR : Hid (R = []) := hR.symm.trans (below_no HF.out)
      have HU : Hid (u = false) := hu.symm.trans HF.out
      have hXa : splitX a = (splitN a, 0) := by rw [splitX_pair, ha]
      have HXa : Hid (splitX a = (splitN a, 0)) := hXa
      have HXb : Hid (splitX b = (splitN b, splitE b)) := splitX_pair b
      clear HF hR hu ha hXa
      generalize splitE b = E at *
      generalize splitN a = A at *
      generalize splitN b = B at *
      obtain ⟨la, hla⟩ : ∃ la, A.length = la := ⟨_, rfl⟩
      have HLA : Hid (A.length = la) := hla
      obtain ⟨lb, hlb⟩ : ∃ lb, B.length = lb := ⟨_, rfl⟩
      have HLB : Hid (B.length = lb) := hlb
      clear hla hlb
      go_enter Try.func44, Try.ntmps44
      go_wp2_with fail
      refine (split_val a A 0 la _ HSa.out HXa.out HLA.out).mono ?_
      rintro e w1 ⟨a1, b1, cap1, rfl, hS1, c1⟩
      go_wp2_with fail
      refine (split_val b B E lb _ HSb.out HXb.out HLB.out).mono ?_
      rintro e w2 ⟨a2, b2, cap2, rfl, hS2, c2⟩
      have cc := bel_trans c1 c2
      clear hS1 hS2 c1 c2
      go_wp2
      go_ret2
      exact ⟨BelowR.no HR.out HU.out HN.out rfl, cc⟩
  · have HF : Hid (underB a b = false) := by show _ = _; unfold underB; simp [ha]
    have HR : Hid (R = []) := hR.symm.trans (below_no HF.out)
    have HU : Hid (u = false) := hu.symm.trans HF.out
    have HXa : Hid (splitX a = (splitN a, splitE a)) := splitX_pair a
    clear HF hR hu
    generalize splitE a = E at *
    generalize splitN a = A at *
    obtain ⟨la, hla⟩ : ∃ la, A.length = la := ⟨_, rfl⟩
    have HLA : Hid (A.length = la) := hla
    clear hla
    go_enter Try.func44, Try.ntmps44
    go_wp2_with fail
    refine (split_val a A E la _ HSa.out HXa.out HLA.out).mono ?_
    rintro e w1 ⟨a1, b1, cap1, rfl, hS1, c1⟩
    clear hS1
    go_wp2
    go_ret2
    exact ⟨BelowR.no HR.out HU.out HN.out rfl, c1⟩

end Go.Proofs.Ytlfehfajaelmlaa
