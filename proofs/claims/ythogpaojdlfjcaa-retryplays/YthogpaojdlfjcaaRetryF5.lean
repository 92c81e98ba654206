/- The contract of retry.Forget. -/
import Derived.Test.YthogpaojdlfjcaaRetryF3
import Derived.Shelf.Abstract
namespace Go.Proofs.Ythogpaojdlfjcaa.Rty
open Go.RowKit Go.Proofs.Ythogpaojdlfjcaa Go.Proofs.Ythogpaojdlfjcaa.Edi

theorem grown_of_below {w w' : World} (h : Below w.heap.size w w') : w.grownBy w' none := ⟨h.os, h.tape, h.output, h.size, fun k hk _ => h.block k hk⟩

/-- Is it one that goes? -/
def goes (cl bl : Int) (e : Ent) : Bool := decide (e.ed.c = cl ∧ e.ed.l < bl)

set_option maxRecDepth 100000 in
set_option maxHeartbeats 1000000 in
theorem forget1_val {w : World} {p1 p2 : Nat} {cl bl c k : Int} (h1 : w.cell? ⟨p1, 0, none⟩ = some (.int .i64 cl)) (h2 : w.cell? ⟨p2, 0, none⟩ = some (.int .i64 bl)) (kv : KV) (v : Bool) (hv : decide (c = cl ∧ k < bl) = v) :
    Calls Try.prog 24 #[.agg #[.int .i64 c, .int .i64 k], mkV kv, .pointer (some ⟨p1, 0, none⟩), .pointer (some ⟨p2, 0, none⟩)] w fun e w' => e = .returned (.bool v) ∧ Below w.heap.size w w' := by
  have q1 : ∀ o o2, ((w.alloc o).alloc o2).cell? ⟨p1, 0, none⟩ = some (.int .i64 cl) := fun o o2 => bel_cell (bel_tr (bel_al _ _) (bel_al _ _)) h1
  have q2 : ∀ o o2, ((w.alloc o).alloc o2).cell? ⟨p2, 0, none⟩ = some (.int .i64 bl) := fun o o2 => bel_cell (bel_tr (bel_al _ _) (bel_al _ _)) h2
  clear h1 h2
  unfold mkV
  by_cases hc : c = cl
  · have hcb : (c == cl) = true := by simpa using hc
    have HV : Hid (decide (k < bl) = v) := by show decide (k < bl) = v; rw [← hv]; simp [hc]
    clear hv hc
    go_enter Try.func24, Try.ntmps24
    go_wp2
    go_ret
    exact ⟨congrArg (fun b => Ending.returned (.bool b)) HV.out, bel_tr (bel_al _ _) (bel_al _ _)⟩
  · have hcb : (c == cl) = false := by simpa using hc
    have HV : Hid (false = v) := by show false = v; rw [← hv]; simp [hc]
    clear hv hc
    go_enter Try.func24, Try.ntmps24
    go_wp2
    go_ret
    exact ⟨congrArg (fun b => Ending.returned (.bool b)) HV.out, bel_tr (bel_al _ _) (bel_al _ _)⟩

/-- Those that are still there while the map is gone through. -/
def stays (S : List Ent) (f : Ent → Bool) (left : Lit → Bool) : List Ent := S.filter fun e => !(f e && !left (kl e.ed.c e.ed.l))

theorem stays_start {S : List Ent} {f : Ent → Bool} {left : Lit → Bool} (h : ∀ e ∈ S, left (kl e.ed.c e.ed.l) = true) : stays S f left = S := List.filter_eq_self.2 (fun e he => by rw [h e he]; simp)
theorem stays_end {S : List Ent} {f : Ent → Bool} {left : Lit → Bool} (h : ∀ z, left z = false) : stays S f left = S.filter fun e => !f e := List.filter_congr (fun e he => by rw [h]; simp)
theorem stays_sub (S : List Ent) (f : Ent → Bool) (left : Lit → Bool) : (stays S f left).Sublist S := List.filter_sublist
theorem same_kl {S : List Ent} (hg : Good S) {e x : Ent} (he : e ∈ S) (hx : x ∈ S) : (kl x.ed.c x.ed.l).sameKey (kl e.ed.c e.ed.l) = x.is e.ed.c e.ed.l := by
  cases hs : x.is e.ed.c e.ed.l with
  | true =>
    obtain ⟨h1, h2⟩ := is_iff.1 hs
    rw [h1, h2]
    exact WideAt.sameKey_self (kl_key _ _)
  | false =>
    apply Maps.sameKey_ne
    intro e2
    have := kl_inj (hg.fit x hx).1 (hg.fit x hx).2 (hg.fit e he).1 (hg.fit e he).2 e2
    rw [Bool.eq_false_iff] at hs
    exact hs (is_iff.2 this)
/-- One comes up that stays. -/
theorem stays_keep {S : List Ent} (hg : Good S) {f : Ent → Bool} {left : Lit → Bool} {e : Ent} (he : e ∈ S) (hf : f e = false) : stays S f (fun z => left z && !z.sameKey (kl e.ed.c e.ed.l)) = stays S f left := by
  apply List.filter_congr
  intro x hx
  show (!(f x && !(left (kl x.ed.c x.ed.l) && !(kl x.ed.c x.ed.l).sameKey (kl e.ed.c e.ed.l)))) = _
  rw [same_kl hg he hx]
  cases hs : x.is e.ed.c e.ed.l with
  | true => rw [one_of hg hx he (is_iff.1 hs), hf]; simp
  | false => simp
/-- One comes up that goes. -/
theorem stays_drop {S : List Ent} (hg : Good S) {f : Ent → Bool} {left : Lit → Bool} {e : Ent} (he : e ∈ S) (hf : f e = true) : stays S f (fun z => left z && !z.sameKey (kl e.ed.c e.ed.l)) = (stays S f left).filter fun x => !x.is e.ed.c e.ed.l := by
  unfold stays
  rw [List.filter_filter]
  apply List.filter_congr
  intro x hx
  show (!(f x && !(left (kl x.ed.c x.ed.l) && !(kl x.ed.c x.ed.l).sameKey (kl e.ed.c e.ed.l)))) = _
  rw [same_kl hg he hx]
  cases hs : x.is e.ed.c e.ed.l with
  | true => rw [one_of hg hx he (is_iff.1 hs), hf]; simp
  | false => simp
theorem goes_is (cl bl : Int) (e : Ent) : decide (e.ed.c = cl ∧ e.ed.l < bl) = goes cl bl e := rfl

set_option maxRecDepth 100000 in
set_option maxHeartbeats 8000000 in
theorem deleteFunc_val {O : Nat → Prop} {w : World} {cb mb : Nat} {S : List Ent} {t : Nat} (h : CAt O w cb mb S t) {p1 p2 : Nat} {cl bl : Int} (h1 : w.cell? ⟨p1, 0, none⟩ = some (.int .i64 cl)) (h2 : w.cell? ⟨p2, 0, none⟩ = some (.int .i64 bl)) (hp1 : p1 ≠ mb) (hp2 : p2 ≠ mb) :
    Calls Try.prog 23 #[.map (some mb), .func (.func 24) #[] #[.pointer (some ⟨p1, 0, none⟩), .pointer (some ⟨p2, 0, none⟩)]] w fun e w' => e = .returned (.tuple #[]) ∧ CAt O w' cb mb (S.filter fun e => !goes cl bl e) t ∧ Stay O w w' := by
  obtain ⟨D, ho, hT⟩ := h.own
  have HH : Hid (CAt O w cb mb S t) := h
  have HT : Hid (Tells D S) := hT
  have HO : Hid (w.ownsMap Try.prog 61 rv mb S.length D) := ho
  have H1 : Hid (w.cell? ⟨p1, 0, none⟩ = some (.int .i64 cl) ∧ p1 ≠ mb) := ⟨h1, hp1⟩
  have H2 : Hid (w.cell? ⟨p2, 0, none⟩ = some (.int .i64 bl) ∧ p2 ≠ mb) := ⟨h2, hp2⟩
  have eg : ∀ args w, (callFunc 24 args).run Try.prog w = .ok (.enter 24 args) w := enters_of Try.func24 (by kernel_rfl) rfl
  clear h hT ho h1 h2 hp1 hp2
  go_enter Try.func23, Try.ntmps23
  go_wp2_with (at_range; refine wpList_range_own _ rfl _ 55 rfl 61 63 lawI Try.underlying55 rv mb _ D rfl HO.out ?_; intro w0 hrg0 hg0 hs0)
  have B0 : Hid (Stay (fun k => k = mb) w w0) := Stay.of_grown hg0 (fun k hk => by cases hk)
  have R0 : Hid (w0.ranges Try.prog 61 rv mb w.heap.size S.length D (Maps.has D) (Maps.size D)) := hrg0
  have S0 : Hid (Tells D (stays S (goes cl bl) (Maps.has D))) := by
    rw [stays_start]
    · exact HT.out
    · intro e he
      rw [HT.out.has HH.out.good (HH.out.good.fit e he).1 (HH.out.good.fit e he).2, look_of HH.out.good he]; rfl
  clear hrg0 hg0 hs0
  go_frame
  go_loopw [8] (fun _ wr => ∃ (D' : DataW Value) (left : Lit → Bool) (cnt : Nat), wr.ranges Try.prog 61 rv mb w.heap.size S.length D' left cnt ∧ Stay (fun k => k = mb) w wr ∧ Tells D' (stays S (goes cl bl) left)) (fun _ wr => wr.rangeLeft mb w.heap.size)
  case atStart => exact ⟨D, _, _, R0.out, B0.out, S0.out⟩
  case round =>
    obtain ⟨D', left, cnt, hrg, hst, hT'⟩ := hrel
    clear R0 B0 S0
    go_wp2_with (at_next; refine wpList_next_ranges _ rfl _ rfl 61 lawI rv mkI mkV invI invV_rv mb w.heap.size _ _ left cnt rfl hrg ?_ ?_)
    · intro _ hl0
      have HZ : Hid (CAt O wr cb mb (S.filter fun e => !goes cl bl e) t ∧ Stay O w wr) := by
        rw [stays_end hl0] at hT'
        exact HH.out.rest hst hrg.owns hT' List.filter_sublist
      clear hrg hst hT' hl0
      go_wp2
      refine bodyPost_end (results_none rfl _ _ _) rfl ?_
      exact ⟨rfl, HZ.out⟩
    · intro x1 x2 c kl y1 y2 w1 cnt1 hkey hlx hv hat hrg1 hlt hg1 hs1 hen
      obtain ⟨e, he0, hx, hc, rfl⟩ := came (x := (x1, x2)) hT' (HH.out.good.filter _) hkey hv hat
      have he : e ∈ S := (List.mem_filter.1 he0).1
      obtain ⟨rfl, rfl⟩ : x1 = e.ed.c ∧ x2 = e.ed.l := ⟨congrArg Prod.fst hx, congrArg Prod.snd hx⟩
      have h64 := HH.out.good.fit e he
      have hkey2 := keyI h64.1 h64.2
      have q1 := (World.cell?_of_block (a := ⟨p1, 0, none⟩) (hst.block p1 (World.block_lt_of_cell? _ _ H1.out.1) H1.out.2)).trans H1.out.1
      have q2 := (World.cell?_of_block (a := ⟨p2, 0, none⟩) (hst.block p2 (World.block_lt_of_cell? _ _ H2.out.1) H2.out.2)).trans H2.out.1
      have hw : ∀ k, k < wr.heap.size → k ≠ w.heap.size → w1.heap[k]? = wr.heap[k]? := fun k hk hn => hg1.block k hk (by simpa using hn)
      have q1' : ∀ o o2, ((w1.alloc o).alloc o2).cell? ⟨p1, 0, none⟩ = some (.int .i64 cl) := fun o o2 => bel_cell (bel_tr (bel_al _ _) (bel_al _ _)) ((World.cell?_of_block (a := ⟨p1, 0, none⟩) (hw p1 (World.block_lt_of_cell? _ _ q1) (by have := World.block_lt_of_cell? _ _ H1.out.1; simp at this; omega))).trans q1)
      have q2' : ∀ o o2, ((w1.alloc o).alloc o2).cell? ⟨p2, 0, none⟩ = some (.int .i64 bl) := fun o o2 => bel_cell (bel_tr (bel_al _ _) (bel_al _ _)) ((World.cell?_of_block (a := ⟨p2, 0, none⟩) (hw p2 (World.block_lt_of_cell? _ _ q2) (by have := World.block_lt_of_cell? _ _ H2.out.1; simp at this; omega))).trans q2)
      have HST1 : Hid (Stay (fun k => k = mb) w w1) := hst.trans (O2 := fun k => k = w.heap.size) (Stay.of_grown hg1 (fun k hk => by cases hk; rfl)) (fun i hi e => by omega)
      have HR1 : Hid (w1.ranges Try.prog 61 rv mb w.heap.size S.length D' (fun z => left z && !z.sameKey (Rty.kl e.ed.c e.ed.l)) cnt1) := hrg1
      have HLT : Hid (cnt1 < wr.rangeLeft mb w.heap.size) := by show cnt1 < _; rw [hrg.left_eq]; exact hlt
      have HT1 : Hid (Tells D' (stays S (goes cl bl) left)) := hT'
      have HE : Hid (e ∈ S) := he
      obtain ⟨v, hv2⟩ : ∃ v, decide (e.ed.c = cl ∧ e.ed.l < bl) = v := ⟨_, rfl⟩
      have CV : Hid (∀ o o2, Calls Try.prog 24 #[.agg #[.int .i64 e.ed.c, .int .i64 e.ed.l], mkV c, .pointer (some ⟨p1, 0, none⟩), .pointer (some ⟨p2, 0, none⟩)] ((w1.alloc o).alloc o2) fun e w' => e = .returned (.bool v) ∧ Below ((w1.alloc o).alloc o2).heap.size ((w1.alloc o).alloc o2) w') := fun o o2 => forget1_val (q1' o o2) (q2' o o2) c v hv2
      have HKEEP : Hid (v = false → Tells D' (stays S (goes cl bl) (fun z => left z && !z.sameKey (Rty.kl e.ed.c e.ed.l)))) := fun h0 => by
        rw [stays_keep HH.out.good he (hv2.trans h0)]
        exact hT'
      have HDROP : Hid (v = true → Tells (D'.del (Rty.kl e.ed.c e.ed.l)) (stays S (goes cl bl) (fun z => left z && !z.sameKey (Rty.kl e.ed.c e.ed.l)))) := fun h0 => by
        rw [stays_drop HH.out.good he (hv2.trans h0)]
        exact hT'.del (HH.out.good.filter _) h64.1 h64.2
      have HK : Hid (keyOf Try.prog 61 (.agg #[.int .i64 e.ed.c, .int .i64 e.ed.l]) = some (Rty.kl e.ed.c e.ed.l)) := hkey2
      clear hrg1 hrg hlt hg1 hs1 hst hT' hkey hlx hv hat hx hc he he0 h64 hkey2 q1 q2 q1' q2' hw hv2
      generalize e.ed.c = ec at *
      generalize e.ed.l = el at *
      unfold mkI mkV at hen
      unfold mkV at CV
      simp only at hen CV
      obtain ⟨xb, xe, xi, xg, xl, a1, n1, c1, xp, xd, xq, a2, n2, c2, xwr, xn, xt⟩ := c
      simp only at hen CV
      unfold mkI mkV
      simp only
      have KK : Hid (Cells ((w1.alloc (.cells #[.int .i64 ec, .int .i64 el] 61)).alloc (.cells #[.string xb, .int .i64 xe, .int .i64 xi, .int .i64 xg, .int .i64 xl, .slice a1 n1 c1, .string xp, .bool xd, .int .i64 xq, .slice a2 n2 c2, .int .i64 xwr, .int .i64 xn, .int .i64 xt] 63)) w1.heap.size [.int .i64 ec, .int .i64 el]) := (Cells.new w1 61 [.int .i64 ec, .int .i64 el]).below (bel_al _ _)
      have sz1 : Hid (mb < w1.heap.size) := by have := HR1.out.owns.lt; exact this
      cases v with
      | false =>
        go_wp2_with (go_at_fn 24; refine (CV.out _ _).mono ?_; rintro y w3 ⟨rfl, b3⟩; have B3 : Hid (Below w1.heap.size w1 w3) := bel_tr (bel_tr (bel_al _ _) (bel_al _ _)) b3; clear b3)
        have hr3 := HR1.out.kept (grown_of_below B3.out) (by simp) (by simp)
        exact ⟨⟨D', _, cnt1, hr3, HST1.out.then_below B3.out, HKEEP.out trivial⟩, by rw [hr3.left_eq]; exact HLT.out⟩
      | true =>
        go_wp2_with (first
          | (go_at_fn 24; refine (CV.out _ _).mono ?_; rintro y w3 ⟨rfl, b3⟩; have B3 : Hid (Below w1.heap.size w1 w3) := bel_tr (bel_tr (bel_al _ _) (bel_al _ _)) b3; have kk0 := (KK.out.below b3).val 0 _ rfl; have kk1 := (KK.out.below b3).val 1 _ rfl; clear b3)
          | (at_delete; refine wpList_delete_ranges _ rfl _ _ 55 61 rfl 63 lawI Try.underlying55 rv mb w.heap.size _ _ _ _ rfl (HR1.out.kept (grown_of_below B3.out) (by simp) (by simp)) _ _ rfl HK.out ?_; intro w4 cnt2 hrg4 hle hturn; go_frame))
        rw [Maps.strike_twice] at hrg4
        have HLE : Hid (cnt2 < wr.rangeLeft mb w.heap.size) := Nat.lt_of_le_of_lt hle HLT.out
        first
          | exact ⟨⟨_, _, cnt2, hrg4, (HST1.out.then_below B3.out).then_same (Stay.of_grown hturn.grown (fun k hk => by cases hk; rfl)), HDROP.out trivial⟩, by rw [hrg4.left_eq]; exact HLE.out⟩
          | (go_roundw
             case rel => exact ⟨_, _, cnt2, hrg4, (HST1.out.then_below B3.out).then_same (Stay.of_grown hturn.grown (fun k hk => by cases hk; rfl)), HDROP.out trivial⟩
             case measure => rw [hrg4.left_eq]; exact HLE.out)

set_option maxRecDepth 100000 in
set_option maxHeartbeats 1000000 in
theorem forget_val {O : Nat → Prop} {w : World} {cb mb : Nat} {S : List Ent} {t : Nat} (h : CAt O w cb mb S t) (cl bl : Int) :
    Calls Try.prog 12 #[.pointer (some ⟨cb, 0, none⟩), .int .i64 cl, .int .i64 bl] w fun e w' => e = .returned (.tuple #[]) ∧ CAt O w' cb mb (S.filter fun e => !goes cl bl e) t ∧ Stay O w w' := by
  have B2 : Hid (Below w.heap.size w ((w.alloc (.cells #[.int .i64 cl] 3)).alloc (.cells #[.int .i64 bl] 3))) := bel_tr (bel_al _ _) (bel_al _ _)
  have HH : Hid (CAt O ((w.alloc (.cells #[.int .i64 cl] 3)).alloc (.cells #[.int .i64 bl] 3)) cb mb S t) := h.below B2.out
  have c0 := HH.out.c0
  have hmb := h.lt mb h.oM
  have K1 := (Cells.new w 3 [.int .i64 cl]).below (bel_al _ (.cells #[.int .i64 bl] 3))
  have K2 := cells2 w (.cells #[.int .i64 cl] 3) 3 [.int .i64 bl]
  have CD : Hid (Calls Try.prog 23 #[.map (some mb), .func (.func 24) #[] #[.pointer (some ⟨w.heap.size, 0, none⟩), .pointer (some ⟨w.heap.size + 1, 0, none⟩)]] ((w.alloc (.cells #[.int .i64 cl] 3)).alloc (.cells #[.int .i64 bl] 3)) fun e w' => e = .returned (.tuple #[]) ∧ CAt O w' cb mb (S.filter fun e => !goes cl bl e) t ∧ Stay O ((w.alloc (.cells #[.int .i64 cl] 3)).alloc (.cells #[.int .i64 bl] 3)) w') := deleteFunc_val HH.out (K1.val 0 _ rfl) (K2.val 0 _ rfl) (by omega) (by omega)
  clear h K1 K2 hmb
  go_enter Try.func12, Try.ntmps12
  go_wp2_with (go_at_call 23; refine CD.out.mono ?_; rintro y w3 ⟨rfl, h3, s3⟩; have H3 : Hid _ := h3; have S3 : Hid (Stay O w w3) := (Stay.of_below B2.out).then_same s3; clear h3 s3)
  refine bodyPost_end (results_none rfl _ _ _) rfl ?_
  exact ⟨rfl, H3.out, S3.out⟩

end Go.Proofs.Ythogpaojdlfjcaa.Rty
