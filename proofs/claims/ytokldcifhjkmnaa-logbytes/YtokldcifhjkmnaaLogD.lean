/- A disk beside blocks that are kept; the contracts of deleted, appended, Store, Add. -/
import Derived.Test.YtokldcifhjkmnaaLogF2
namespace Go.Proofs.Ytokldcifhjkmnaa.Lgg
open Go.RowKit Go.Proofs.Ytokldcifhjkmnaa
open Go.Proofs.Ytokldcifhjkmnaa.Smm (sealB)
set_option linter.unusedVariables false

/-- A disk, made since w0; the blocks of K are others'. -/
structure Dk (w0 : World) (K : Nat → Prop) (w : World) (pd : Nat) (ds : DS) : Prop where
  ex : ∃ O, DAt O w pd ds ∧ (∀ k, O k → w0.heap.size ≤ k ∧ ¬ K k) ∧ Below w0.heap.size w0 w ∧ ∀ k, K k → k < w.heap.size

section
variable {w0 w w' : World} {K K' : Nat → Prop} {pd : Nat} {ds ds' : DS}
theorem Dk.bel (h : Dk w0 K w pd ds) : Below w0.heap.size w0 w := by obtain ⟨O, _, _, h, _⟩ := h.ex; exact h
theorem Dk.add (h : Dk w0 K w pd ds) (hb : Below w.heap.size w w') (hK : ∀ k, K' k → K k ∨ (w.heap.size ≤ k ∧ k < w'.heap.size)) : Dk w0 K' w' pd ds := by
  obtain ⟨O, h1, h2, h3, h4⟩ := h.ex
  refine ⟨O, h1.below hb, fun k hk => ⟨(h2 k hk).1, fun e => ?_⟩, bel_tr h3 hb, fun k hk => ?_⟩
  · rcases hK k e with e | e
    · exact (h2 k hk).2 e
    · have := h1.lt k hk; omega
  · rcases hK k hk with e | e
    · exact Nat.lt_of_lt_of_le (h4 k e) hb.size
    · exact e.2
theorem Dk.below (h : Dk w0 K w pd ds) (hb : Below w.heap.size w w') : Dk w0 K w' pd ds := h.add hb (fun _ e => .inl e)
theorem Dk.rise (h : Dk w0 K w pd ds) : Rise ds.S := by obtain ⟨O, h1, _⟩ := h.ex; exact h1.rise
theorem Stay.to {O O2 : Nat → Prop} (h : Stay O w w') (hO : ∀ k, O k → O2 k) : Stay O2 w w' := ⟨h.os, h.tape, h.output, h.size, fun k hk hn => h.block k hk (fun e => hn (hO k e))⟩
theorem Stay.of_bel {O : Nat → Prop} (h : Below w.heap.size w w') : Stay O w w' := Stay.of_below h
theorem Stay.two {O : Nat → Prop} {w2 : World} (h : Stay O w w') (k : Stay O w' w2) : Stay O w w2 := h.then_same k

theorem dk_grow {O : Nat → Prop} (hl : ∀ k, O k → w0.heap.size ≤ k ∧ ¬ K k) (hb : Below w0.heap.size w0 w) (hK : ∀ k, K k → k < w.heap.size) (h : DAt (Grow O w w') w' pd ds) (hs : Stay O w w') : Dk w0 K w' pd ds ∧ Stay (fun k => ¬ K k) w w' :=
  ⟨⟨_, h, fun k hk => hk.elim (hl k) (fun e => ⟨Nat.le_trans hb.size e.1, fun e2 => by have := hK k e2; omega⟩), hb.trans (hs.below hb.size (fun k hk => (hl k hk).1)), fun k hk => Nat.lt_of_lt_of_le (hK k hk) hs.size⟩, Stay.to hs (fun k hk => (hl k hk).2)⟩
theorem dk_same {O : Nat → Prop} (hl : ∀ k, O k → w0.heap.size ≤ k ∧ ¬ K k) (hb : Below w0.heap.size w0 w) (hK : ∀ k, K k → k < w.heap.size) (h : DAt O w' pd ds) (hs : Stay O w w') : Dk w0 K w' pd ds ∧ Stay (fun k => ¬ K k) w w' :=
  ⟨⟨_, h, hl, hb.trans (hs.below hb.size (fun k hk => (hl k hk).1)), fun k hk => Nat.lt_of_lt_of_le (hK k hk) hs.size⟩, Stay.to hs (fun k hk => (hl k hk).2)⟩

theorem dk_new (hb : Below w0.heap.size w0 w) (room r : Int) (hr : -9223372036854775808 ≤ room ∧ room < 9223372036854775808) (hm : max room 0 = r) :
    Calls Try.prog 13 #[.int .i64 room] w fun e w' => ∃ pd, e = .returned (.pointer (some ⟨pd, 0, none⟩)) ∧ Dk w0 (fun k => w0.heap.size ≤ k ∧ k < w.heap.size) w' pd ⟨r, 0, false, []⟩ ∧ Below w.heap.size w w' :=
  (new_val room r w hr hm).mono fun _ _ ⟨pd, h1, h2, h3⟩ => ⟨pd, h1, ⟨_, h2, fun k hk => ⟨Nat.le_trans hb.size hk.1, fun e => by omega⟩, bel_tr hb h3, fun k hk => by have := h3.size; omega⟩, h3⟩
theorem Dk.less (h : Dk w0 K w pd ds) (hK : ∀ k, K' k → K k) : Dk w0 K' w pd ds := h.add (Below.refl _ _) (fun k hk => .inl (hK k hk))

theorem dk_append (h : Dk w0 K w pd ds) (s d : ByteArray) (hs : s.size ≤ maxLen) (hd : d.size ≤ 140737488355328) (q : Int) (hq : begE ds (refA ds s.data.toList d.data.toList) = q)
    (hds : doD ds (refA ds s.data.toList d.data.toList) (fapp s.data.toList d.data.toList) = ds') :
    Calls Try.prog 15 #[.pointer (some ⟨pd, 0, none⟩), .string s, .string d] w fun e w' => e = .returned (.int .i64 q) ∧ Dk w0 K w' pd ds' ∧ Stay (fun k => ¬ K k) w w' := by
  obtain ⟨O, h1, h2, h3, h4⟩ := h.ex
  exact (append_val h1 s d hs hd q hq hds).mono fun e w' ⟨e1, e2, e3⟩ => ⟨e1, dk_grow h2 h3 h4 e2 e3⟩
theorem dk_sync (h : Dk w0 K w pd ds) (s : ByteArray) (hs : s.size ≤ maxLen) (q : Int) (hq : begE ds (refM ds.S s.data.toList) = q) (hds : doD ds (refM ds.S s.data.toList) (fsyn s.data.toList) = ds') :
    Calls Try.prog 70 #[.pointer (some ⟨pd, 0, none⟩), .string s] w fun e w' => e = .returned (.int .i64 q) ∧ Dk w0 K w' pd ds' ∧ Stay (fun k => ¬ K k) w w' := by
  obtain ⟨O, h1, h2, h3, h4⟩ := h.ex
  exact (sync_val h1 s hs q hq hds).mono fun e w' ⟨e1, e2, e3⟩ => ⟨e1, dk_grow h2 h3 h4 e2 e3⟩
theorem dk_delete (h : Dk w0 K w pd ds) (s : ByteArray) (hs : s.size ≤ maxLen) (q : Int) (hq : begE ds (refM ds.S s.data.toList) = q) (hds : doD ds (refM ds.S s.data.toList) (fun S => fdel S s.data.toList) = ds') :
    Calls Try.prog 69 #[.pointer (some ⟨pd, 0, none⟩), .string s] w fun e w' => e = .returned (.int .i64 q) ∧ Dk w0 K w' pd ds' ∧ Stay (fun k => ¬ K k) w w' := by
  obtain ⟨O, h1, h2, h3, h4⟩ := h.ex
  exact (delete_val h1 s hs q hq hds).mono fun e w' ⟨e1, e2, e3⟩ => ⟨e1, dk_grow h2 h3 h4 e2 e3⟩
theorem dk_rename (h : Dk w0 K w pd ds) (s d : ByteArray) (hs : s.size ≤ maxLen) (hd : d.size ≤ maxLen) (q : Int) (hq : begE ds (refR ds.S s.data.toList d.data.toList) = q) (hds : doD ds (refR ds.S s.data.toList d.data.toList) (fren s.data.toList d.data.toList) = ds') :
    Calls Try.prog 53 #[.pointer (some ⟨pd, 0, none⟩), .string s, .string d] w fun e w' => e = .returned (.int .i64 q) ∧ Dk w0 K w' pd ds' ∧ Stay (fun k => ¬ K k) w w' := by
  obtain ⟨O, h1, h2, h3, h4⟩ := h.ex
  exact (rename_val h1 s d hs hd q hq hds).mono fun e w' ⟨e1, e2, e3⟩ => ⟨e1, dk_grow h2 h3 h4 e2 e3⟩
theorem dk_fuse (h : Dk w0 K w pd ds) (n f : Int) (hn : -9223372036854775808 ≤ n ∧ n < 9223372036854775808) (hf : max n 0 = f) :
    Calls Try.prog 24 #[.pointer (some ⟨pd, 0, none⟩), .int .i64 n] w fun e w' => e = .returned (.tuple #[]) ∧ Dk w0 K w' pd { ds with fuse := f } ∧ Stay (fun k => ¬ K k) w w' := by
  obtain ⟨O, h1, h2, h3, h4⟩ := h.ex
  exact (fuse_val h1 n f hn hf).mono fun e w' ⟨e1, e2, e3⟩ => ⟨e1, dk_same h2 h3 h4 e2 e3⟩
theorem dk_crash (h : Dk w0 K w pd ds) (ka : Option Addr) (kb koff kcap m : Nat) (ks : List Int) (hm : ks.length = m) (hmx : m ≤ maxLen) (hI : Ints w0 .i64 ka kb koff ks) (hks : ∀ k ∈ ks, -9223372036854775808 ≤ k ∧ k ≤ 9223372036854775807) :
    Calls Try.prog 23 #[.pointer (some ⟨pd, 0, none⟩), .slice ka m kcap] w fun e w' => e = .returned (.tuple #[]) ∧ Dk w0 K w' pd ⟨ds.room, 0, false, crashL ks ds.S⟩ ∧ Stay (fun k => ¬ K k) w w' := by
  obtain ⟨O, h1, h2, h3, h4⟩ := h.ex
  refine (crash_val h1 ka kb koff kcap m ks hm hmx (hI.below h3) (fun hp e => ?_) hks).mono fun e w' ⟨e1, e2, e3⟩ => ⟨e1, dk_same h2 h3 h4 e2 e3⟩
  have := hI.lt (by omega)
  have := (h2 kb e).1
  omega
theorem dk_read (h : Dk w0 K w pd ds) (s : ByteArray) (hs : s.size ≤ maxLen) (t : ByteArray) (q : Int) (ht : rdT ds s.data.toList = t) (hq : rdE ds s.data.toList = q) :
    Calls Try.prog 41 #[.pointer (some ⟨pd, 0, none⟩), .string s] w fun e w' => e = .returned (.tuple #[.string t, .int .i64 q]) ∧ Below w.heap.size w w' := by
  obtain ⟨O, h1, h2, h3, h4⟩ := h.ex
  exact read_val h1 s hs t q ht hq
end

/-! ### what the calls do -/
def delR (ds : DS) (n : List UInt8) : Int × DS := if rdE ds n = 5 then (0, ds) else if rdE ds n = 0 then (begE ds (refM ds.S n), doD ds (refM ds.S n) (fun S => fdel S n)) else (rdE ds n, ds)
def apsR (ds : DS) (n d : List UInt8) : Int × DS :=
  if begE ds (refA ds n d) = 0 then (begE (doD ds (refA ds n d) (fapp n d)) (refM (doD ds (refA ds n d) (fapp n d)).S n), doD (doD ds (refA ds n d) (fapp n d)) (refM (doD ds (refA ds n d) (fapp n d)).S n) (fsyn n))
  else (begE ds (refA ds n d), doD ds (refA ds n d) (fapp n d))
def newN (s : ByteArray) : ByteArray := s ++ ⟨#[46, 110, 101, 119]⟩
def stoR (ds : DS) (s b : ByteArray) : Int × DS :=
  if (delR ds (newN s).data.toList).1 = 0 then
    if (apsR (delR ds (newN s).data.toList).2 (newN s).data.toList b.data.toList).1 = 0 then
      (begE (apsR (delR ds (newN s).data.toList).2 (newN s).data.toList b.data.toList).2 (refR (apsR (delR ds (newN s).data.toList).2 (newN s).data.toList b.data.toList).2.S (newN s).data.toList s.data.toList),
       doD (apsR (delR ds (newN s).data.toList).2 (newN s).data.toList b.data.toList).2 (refR (apsR (delR ds (newN s).data.toList).2 (newN s).data.toList b.data.toList).2.S (newN s).data.toList s.data.toList) (fren (newN s).data.toList s.data.toList))
    else apsR (delR ds (newN s).data.toList).2 (newN s).data.toList b.data.toList
  else delR ds (newN s).data.toList
def addR (ds : DS) (s b : ByteArray) : Int × DS := if rdE ds s.data.toList = 0 then apsR ds s.data.toList b.data.toList else (rdE ds s.data.toList, ds)

section
variable {w0 w : World} {K : Nat → Prop} {pd : Nat} {ds ds' : DS}
set_option maxRecDepth 100000 in
set_option maxHeartbeats 1000000 in
theorem deleted_val (h : Dk w0 K w pd ds) (s : ByteArray) (hs : s.size ≤ maxLen) (q : Int) (hr : delR ds s.data.toList = (q, ds')) :
    Calls Try.prog 51 #[.pointer (some ⟨pd, 0, none⟩), .string s] w fun e w' => e = .returned (.int .i64 q) ∧ Dk w0 K w' pd ds' ∧ Stay (fun k => ¬ K k) w w' := by
  obtain ⟨t, ht⟩ : ∃ t, rdT ds s.data.toList = t := ⟨_, rfl⟩
  obtain ⟨r, hrd⟩ : ∃ r, rdE ds s.data.toList = r := ⟨_, rfl⟩
  have HH : Hid (Dk w0 K w pd ds) := h
  have HR : Hid (Calls Try.prog 41 #[.pointer (some ⟨pd, 0, none⟩), .string s] w fun e w' => e = .returned (.tuple #[.string t, .int .i64 r]) ∧ Below w.heap.size w w') := dk_read h s hs t r ht hrd
  unfold delR at hr
  rw [hrd] at hr
  by_cases h5 : r = 5
  · rw [if_pos h5] at hr
    cases hr
    subst h5
    clear h hrd ht
    go_enter Try.func51, Try.ntmps51
    go_wp2_with fail
    refine HR.out.mono ?_
    rintro e w1 ⟨rfl, b1⟩
    go_wp2
    go_ret
    exact ⟨rfl, HH.out.below b1, Stay.of_bel b1⟩
  · rw [if_neg h5] at hr
    by_cases h0 : r = 0
    · rw [if_pos h0] at hr
      simp only [Prod.mk.injEq] at hr
      have HD : Hid (∀ W, Dk w0 K W pd ds → Calls Try.prog 69 #[.pointer (some ⟨pd, 0, none⟩), .string s] W fun e w' => e = .returned (.int .i64 q) ∧ Dk w0 K w' pd ds' ∧ Stay (fun k => ¬ K k) W w') := fun W hW => dk_delete hW s hs q hr.1 hr.2
      subst h0
      clear h hr hrd ht h5
      go_enter Try.func51, Try.ntmps51
      go_wp2_with fail
      refine HR.out.mono ?_
      rintro e w1 ⟨rfl, b1⟩
      have B1 : Hid (Below w.heap.size w w1) := b1
      clear b1
      go_wp2_with fail
      refine (HD.out _ (HH.out.below B1.out)).mono ?_
      rintro e w2 ⟨rfl, h2, h3⟩
      go_wp2
      go_ret
      exact ⟨rfl, h2, Stay.two (Stay.of_bel B1.out) h3⟩
    · rw [if_neg h0] at hr
      simp only [Prod.mk.injEq] at hr
      obtain ⟨rfl, rfl⟩ := hr
      clear h hrd ht
      go_enter Try.func51, Try.ntmps51
      go_wp2_with fail
      refine HR.out.mono ?_
      rintro e w1 ⟨rfl, b1⟩
      go_wp2
      go_ret
      exact ⟨rfl, HH.out.below b1, Stay.of_bel b1⟩

set_option maxRecDepth 100000 in
set_option maxHeartbeats 1000000 in
theorem appended_val (h : Dk w0 K w pd ds) (s d : ByteArray) (hs : s.size ≤ maxLen) (hd : d.size ≤ 140737488355328) (q : Int) (hr : apsR ds s.data.toList d.data.toList = (q, ds')) :
    Calls Try.prog 52 #[.pointer (some ⟨pd, 0, none⟩), .string s, .string d] w fun e w' => e = .returned (.int .i64 q) ∧ Dk w0 K w' pd ds' ∧ Stay (fun k => ¬ K k) w w' := by
  obtain ⟨r, hrd⟩ : ∃ r, begE ds (refA ds s.data.toList d.data.toList) = r := ⟨_, rfl⟩
  obtain ⟨d1, hd1⟩ : ∃ r, doD ds (refA ds s.data.toList d.data.toList) (fapp s.data.toList d.data.toList) = r := ⟨_, rfl⟩
  have HR : Hid (Calls Try.prog 15 #[.pointer (some ⟨pd, 0, none⟩), .string s, .string d] w fun e w' => e = .returned (.int .i64 r) ∧ Dk w0 K w' pd d1 ∧ Stay (fun k => ¬ K k) w w') := dk_append h s d hs hd r hrd hd1
  unfold apsR at hr
  rw [hrd, hd1] at hr
  by_cases h0 : r = 0
  · rw [if_pos h0] at hr
    simp only [Prod.mk.injEq] at hr
    have HD : Hid (∀ W, Dk w0 K W pd d1 → Calls Try.prog 70 #[.pointer (some ⟨pd, 0, none⟩), .string s] W fun e w' => e = .returned (.int .i64 q) ∧ Dk w0 K w' pd ds' ∧ Stay (fun k => ¬ K k) W w') := fun W hW => dk_sync hW s hs q hr.1 hr.2
    subst h0
    clear h hr hrd hd1
    go_enter Try.func52, Try.ntmps52
    go_wp2_with fail
    refine HR.out.mono ?_
    rintro e w1 ⟨rfl, h1, h2⟩
    have H1 : Hid (Dk w0 K w1 pd d1 ∧ Stay (fun k => ¬ K k) w w1) := ⟨h1, h2⟩
    clear h1 h2
    go_wp2_with fail
    refine (HD.out _ H1.out.1).mono ?_
    rintro e w2 ⟨rfl, h2, h3⟩
    go_wp2
    go_ret
    exact ⟨rfl, h2, Stay.two H1.out.2 h3⟩
  · rw [if_neg h0] at hr
    simp only [Prod.mk.injEq] at hr
    obtain ⟨rfl, rfl⟩ := hr
    clear h hrd hd1
    go_enter Try.func52, Try.ntmps52
    go_wp2_with fail
    refine HR.out.mono ?_
    rintro e w1 ⟨rfl, h1, h2⟩
    go_wp2
    go_ret
    exact ⟨rfl, h1, h2⟩
end

end Go.Proofs.Ytokldcifhjkmnaa.Lgg
