/- The contracts of mail.line.all, mail.All, tabulariumlaw05.messages, of, pick. -/
import Derived.Test.YtgjbafpjllfdeaaMailF5
namespace Go.Proofs.Ytgjbafpjllfdeaa
open Go.RowKit

theorem cel_of_own {w : World} {base : Nat} {e : TypeId} {size : Nat} {v : Value} {n : Nat} {xs : List Value} (h : w.ownsRow base e size v n xs) : ∃ g, Cel (fun k => base ≤ k) w size v n xs g := by
  have hl := h.1
  rcases h.2 with ⟨rfl, h0⟩ | ⟨g, cap, cur, rfl, hb, hg, hn, hc, hsz, htk⟩
  · subst h0
    exact ⟨none, .nil rfl rfl (List.length_eq_zero_iff.1 (by omega))⟩
  · have hlt : g < w.heap.size := by
      rcases Nat.lt_or_ge g w.heap.size with h | h
      · exact h
      · rw [Array.getElem?_eq_none h] at hg; cases hg
    have ec : ∀ j, w.cell? ⟨g, j, none⟩ = cur[j]? := fun j => by simp [World.cell?, hg]
    have ef : ∀ j, w.frozen? ⟨g, j, none⟩ = false := fun j => by simp [World.frozen?, hg]
    refine ⟨some g, .row g cap rfl hl hb hlt hn hc (fun j hj => ?_) (fun j hj => ⟨?_, ef j⟩)⟩
    · rw [ec, ← Array.getElem?_toList]
      have e1 : xs[j]? = cur.toList[j]? := by rw [← htk, List.getElem?_take, if_pos (by omega)]
      rw [← e1, List.getElem?_eq_getElem hj]
    · rw [ec, Array.getElem?_eq_getElem (by omega)]; rfl

theorem Cel.low {B : Nat} {w w' : World} {size : Nat} {sl : Value} {n : Nat} {cs : List Value} {g : Option Nat} (hB : B ≤ w.heap.size) (h : Cel (Grow (fun k => B ≤ k) w w') w' size sl n cs g) : Cel (fun k => B ≤ k) w' size sl n cs g :=
  h.stay (Nat.le_refl _) (fun _ _ => rfl) (fun _ hk => hk.elim id (fun e => Nat.le_trans hB e.1))

theorem grown_bel {w w' : World} (h : w.grownBy w' none) : Below w.heap.size w w' := ⟨h.os, h.tape, h.output, h.size, fun k hk => h.block k hk (fun e => by cases e)⟩

section
variable {O : Nat → Prop} {w : World} {p : Nat} {a : Option Addr} {c : Nat} {g : Option Nat} {xs : ML}

set_option maxRecDepth 100000 in
set_option maxHeartbeats 2000000 in
theorem lineAll_val (h : MailAt O w p a c g xs) (n : Nat) (hn : xs.length = n) (hle : n ≤ 1000) :
    Calls Try.prog 27 #[.pointer (some ⟨p, 0, none⟩)] w fun e w' => ∃ oa oc og, e = .returned (.slice oa n oc) ∧ Cel (fun k => w.heap.size ≤ k) w' 2 (.slice oa n oc) n (rowC msgC (xs.map (·.1))) og ∧ Below w.heap.size w w' := by
  obtain ⟨ti, hi1, hi2, hi3, hi4⟩ := msgRow
  have HM : Hid _ := h
  have HN : Hid _ := hn
  have c0 := h.c0
  rw [hn] at c0
  have HC0 : Hid _ := c0
  clear h hn
  go_enter Try.func27, Try.ntmps27
  go_wp2_with (at_make; refine wpList_make_own _ rfl _ _ 27 rfl w.heap.size 32 ti _ 2 Try.underlying27 hi1 hi2 hi3 .i64 .i64 n n rfl rfl rfl (by rw [hi4]; omega) (by unfold maxLen; omega) (Nat.le_refl _) ?_; intro w1 hown0 hgrow0; have c01 := bel_cell (grown_bel hgrow0) HC0.out)
  have HB1 : Hid _ := grown_bel hgrow0
  have HO1 : Hid _ := fun (_ : Unit) => cel_of_own hown0
  clear hown0 hgrow0
  go_loopw [3, 5, 17] (fun vo _ vi wr => ∃ (i : Nat) (oa : Option Addr) (oc : Nat) (og : Option Nat), i ≤ n ∧ vi = .int .i64 i ∧ vo = .slice oa i oc ∧ Cel (fun k => w.heap.size ≤ k) wr 2 (.slice oa i oc) i (rowC msgC ((xs.take i).map (·.1))) og ∧ Below w.heap.size w wr) (fun _ _ vi _ => n - (intOf vi).toNat)
  case atStart =>
    obtain ⟨og, ho⟩ := HO1.out ()
    exact ⟨0, _, _, og, by omega, rfl, rfl, by simpa [rowC] using ho, HB1.out⟩
  case round =>
    obtain ⟨i, oa, oc, og, hin, rfl, rfl, hC, hB⟩ := hrel
    have hwr := hB.size
    by_cases hlt : i < n
    · have hix : i < xs.length := by rw [HN.out]; exact hlt
      obtain ⟨b, hab, hgb, e0, e1, e2⟩ := (HM.out.below hB).elem hix
      subst hab hgb
      obtain ⟨xm, xa, hx⟩ : ∃ xm xa, xs[i] = (xm, xa) := ⟨_, _, rfl⟩
      rw [hx] at e0 e1 e2
      have d0 : wr.cell? ⟨b, i * 3, none⟩ = some (.int .i64 xm.t) := e0
      have d1 : wr.cell? ⟨b, i * 3 + 1, none⟩ = some (.string xm.d) := e1
      have d2 : wr.cell? ⟨b, i * 3 + 2, none⟩ = some (.int .i64 (xa : Int)) := e2
      have hnc : rowC msgC ((xs.take (i + 1)).map (·.1)) = rowC msgC ((xs.take i).map (·.1)) ++ msgC xm := by
        rw [List.take_succ_eq_append_getElem hix, List.map_append, rowC_app, hx]; simp [rowC]
      have HC : Hid (Cel (fun k => w.heap.size ≤ k) wr 2 (.slice oa i oc) i (rowC msgC ((xs.take i).map (·.1))) og) := hC
      have HB : Hid _ := hB
      have HNC : Hid _ := hnc
      have BB : Hid (∀ B1 B2, Below wr.heap.size wr ((wr.alloc B1).alloc B2)) := fun B1 B2 => (((Below.refl _ wr).alloc (Nat.le_refl _) B1).alloc (by simp) B2)
      have HSr : Hid (∀ B1, Src Try.prog 2 27 (.slice (some ⟨wr.heap.size + 1, 0, none⟩) 1 1) 1 (msgC xm) ((wr.alloc B1).alloc (.cells #[.int .i64 xm.t, .string xm.d] 32))) := fun B1 =>
        src_newC Try.underlying27 wideM _ _ xm (fun j v hv => by
          have e := World.cell?_alloc_new (wr.alloc B1) #[.int .i64 xm.t, .string xm.d] 32 j
          rw [show (wr.alloc B1).heap.size = wr.heap.size + 1 by simp] at e
          refine e.trans ?_
          show (List.toArray (msgC xm))[j]? = some v
          rw [List.getElem?_toArray]; exact hv)
      have hst := run_store_str
      clear e0 e1 e2 hC hB hnc hx HO1 HB1 c01
      go_wp2_with (at_builtin; refine wpList_append_cel _ rfl _ _ 27 27 rfl 32 ti _ 2 24 Try.underlying27 hi1 hi2 hi3 hi4 rfl (O := fun k => w.heap.size ≤ k) _ i _ og rfl (HC.out.below (BB.out _ _)) _ 1 (msgC xm) rfl (HSr.out _) (by unfold maxLen; omega) (by omega) ?_; intro a2 cc2 w2 g2 hC2 hst2 hf2)
      have hC2' := Cel.low (by simp; omega) hC2
      have hb2 := hst2.below (B := w.heap.size) (by simp; omega) (fun k hk => by have := HC.out; rw [hk] at this; exact this.lt.2)
      rw [← HNC.out] at hC2'
      have H2 : Hid (Cel (fun k => w.heap.size ≤ k) w2 2 (.slice a2 (i + 1) cc2) (i + 1) (rowC msgC ((xs.take (i + 1)).map (·.1))) g2) := hC2'
      have HB2 : Hid (Below w.heap.size w w2) := (HB.out.trans ((BB.out _ _).mono hwr)).trans hb2
      clear hC2 hC2' hb2 hst2 hf2
      go_roundw
      case rel => exact ⟨i + 1, a2, cc2, g2, by omega, by go_num, by first | rfl | (congr 1 <;> omega), H2.out, HB2.out⟩
      case measure => simp [intOf]; omega
    · obtain rfl : i = n := by omega
      have HC : Hid (Cel (fun k => w.heap.size ≤ k) wr 2 (.slice oa i oc) i (rowC msgC (xs.map (·.1))) og) := by rwa [List.take_of_length_le (by rw [HN.out]; omega)] at hC
      have hgd : decide ((i : Int) < (i : Int)) = false := decide_eq_false (by omega)
      clear hC hlt HO1 HB1
      go_wp2
      go_ret
      exact ⟨oa, oc, og, rfl, HC.out, hB⟩

set_option maxRecDepth 100000 in
theorem all_val (h : MAt O w p xs) (n : Nat) (hn : xs.length = n) (hle : n ≤ 1000) :
    Calls Try.prog 18 #[.pointer (some ⟨p, 0, none⟩)] w fun e w' => ∃ oa oc og, e = .returned (.slice oa n oc) ∧ Cel (fun k => w.heap.size ≤ k) w' 2 (.slice oa n oc) n (rowC msgC (xs.map (·.1))) og ∧ Below w.heap.size w w' := by
  obtain ⟨a, c, g, h⟩ := h.ex
  have CP : Hid _ := fun (_ : Unit) => lineAll_val h n hn hle
  clear h hn
  go_enter Try.func18, Try.ntmps18
  go_wp2_with (refine (CP.out ()).mono ?_; rintro e w1 ⟨oa, oc, og, rfl, hc, hb⟩)
  go_ret
  exact ⟨oa, oc, og, rfl, hc, hb⟩

end

set_option maxRecDepth 100000 in
theorem of_val (s : ByteArray) (w : World) : Calls Try.prog 21 #[.string s] w fun e w' => e = .returned (.agg #[.int .i64 0, .string s]) ∧ Below w.heap.size w w' := by
  have hst := run_store_str
  go_enter Try.func21, Try.ntmps21
  go_wp2
  exact bodyPost_ret (v := .agg #[.int .i64 0, .string s]) (by simp [results, Try.results21, go_sem]) rfl ⟨rfl, (Below.refl _ w).alloc (Nat.le_refl _) _⟩

def keepN (k : Int) : Nat := if k < 0 then (-(k + 1)).toNat else k.toNat
set_option maxRecDepth 100000 in
theorem pick_val (k : Int) (n Q : Nat) (w : World) (hk : -9223372036854775808 ≤ k ∧ k ≤ 9223372036854775807) (hn : 0 < n ∧ n ≤ 1000) (hQ : keepN k % n = Q) :
    Calls Try.prog 9 #[.int .i64 k, .int .i64 n] w fun e w' => e = .returned (.int .i64 Q) ∧ w' = w := by
  have hlt := Nat.mod_lt (keepN k) hn.1
  rw [hQ] at hlt
  unfold keepN at hQ
  by_cases hneg : k < 0
  · rw [if_pos hneg] at hQ
    obtain ⟨kn, hkn⟩ : ∃ kn, (-(k + 1)).toNat = kn := ⟨_, rfl⟩
    rw [hkn] at hQ
    have hkk : -(k + 1) = (kn : Int) := by omega
    have hr1 : (kn : Int).tmod (n : Int) = (Q : Int) := by rw [Int.tmod_eq_emod_of_nonneg (by omega), ← hQ]; rfl
    have hr2 : (kn : Int) % (n : Int) = (Q : Int) := by rw [← hQ]; rfl
    clear hQ hkn
    go_enter Try.func9, Try.ntmps9
    go_wp2
    go_ret
    exact ⟨rfl, rfl⟩
  · rw [if_neg hneg] at hQ
    obtain ⟨kn, hkn⟩ : ∃ kn, k.toNat = kn := ⟨_, rfl⟩
    rw [hkn] at hQ
    obtain rfl : k = (kn : Int) := by omega
    have hr1 : (kn : Int).tmod (n : Int) = (Q : Int) := by rw [Int.tmod_eq_emod_of_nonneg (by omega), ← hQ]; rfl
    have hr2 : (kn : Int) % (n : Int) = (Q : Int) := by rw [← hQ]; rfl
    clear hQ hkn
    go_enter Try.func9, Try.ntmps9
    go_wp2
    go_ret
    exact ⟨rfl, rfl⟩

end Go.Proofs.Ytgjbafpjllfdeaa
