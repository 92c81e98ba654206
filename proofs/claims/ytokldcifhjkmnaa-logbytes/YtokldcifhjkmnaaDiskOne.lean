/- One disk, and two, through a walk. -/
import Derived.Test.YtokldcifhjkmnaaDiskF8
namespace Go.Proofs.Ytokldcifhjkmnaa
open Go.RowKit

theorem crash_val {O : Nat → Prop} {w : World} {pd : Nat} {ds : DS} (h : DAt O w pd ds) (ka : Option Addr) (kb koff kcap m : Nat) (ks : List Int) (hm : ks.length = m) (hmx : m ≤ maxLen) (hI : Ints w .i64 ka kb koff ks) (hkb : 0 < m → ¬ O kb) (hks : ∀ k ∈ ks, -9223372036854775808 ≤ k ∧ k ≤ 9223372036854775807) :
    Calls Try.prog 23 #[.pointer (some ⟨pd, 0, none⟩), .slice ka m kcap] w fun e w' => e = .returned (.tuple #[]) ∧ DAt O w' pd ⟨ds.room, 0, false, crashL ks ds.S⟩ ∧ Stay O w w' := by
  obtain ⟨b, V, B, h⟩ := h
  exact (crash_da h ka kb koff kcap m _ ks hm rfl hmx hI hkb hks).mono fun e w' ⟨h1, ⟨V', B', h2⟩, h3⟩ => ⟨h1, ⟨b, V', B', h2⟩, h3⟩

theorem DAt.lt {O : Nat → Prop} {w : World} {pd : Nat} {ds : DS} (h : DAt O w pd ds) : ∀ k, O k → k < w.heap.size := by
  obtain ⟨b, V, B, h⟩ := h
  exact DiskAt.lt h
theorem DAt.stay {O O2 : Nat → Prop} {w w' : World} {pd : Nat} {ds : DS} (h : DAt O w pd ds) (hs : Stay O2 w w') (hd : ∀ k, O k → ¬ O2 k) : DAt O w' pd ds := by
  obtain ⟨b, V, B, h⟩ := h
  exact ⟨b, V, B, DiskAt.stay h hs hd⟩
theorem DAt.below {O : Nat → Prop} {w w' : World} {pd : Nat} {ds : DS} (h : DAt O w pd ds) (hs : Below w.heap.size w w') : DAt O w' pd ds := by
  obtain ⟨b, V, B, h⟩ := h
  exact ⟨b, V, B, DiskAt.below h hs⟩
theorem DAt.rise {O : Nat → Prop} {w : World} {pd : Nat} {ds : DS} (h : DAt O w pd ds) : Rise ds.S := by
  obtain ⟨b, V, B, h⟩ := h
  exact DiskAt.rise h

/-- One disk, all that it has made since w0. -/
structure One (w0 w : World) (pd : Nat) (ds : DS) : Prop where
  ex : ∃ O, DAt O w pd ds ∧ (∀ k, O k → w0.heap.size ≤ k) ∧ Below w0.heap.size w0 w

theorem one_grow {w0 w w' : World} {pd : Nat} {ds : DS} {O : Nat → Prop} (hl : ∀ k, O k → w0.heap.size ≤ k) (hb : Below w0.heap.size w0 w) (h : DAt (Grow O w w') w' pd ds) (hs : Stay O w w') : One w0 w' pd ds :=
  ⟨⟨_, h, fun k hk => hk.elim (hl k) (fun e => Nat.le_trans hb.size e.1), hb.trans (hs.below hb.size hl)⟩⟩
theorem one_same {w0 w w' : World} {pd : Nat} {ds : DS} {O : Nat → Prop} (hl : ∀ k, O k → w0.heap.size ≤ k) (hb : Below w0.heap.size w0 w) (h : DAt O w' pd ds) (hs : Stay O w w') : One w0 w' pd ds :=
  ⟨⟨_, h, hl, hb.trans (hs.below hb.size hl)⟩⟩
theorem One.below {w0 w w' : World} {pd : Nat} {ds : DS} (h : One w0 w pd ds) (hs : Below w.heap.size w w') : One w0 w' pd ds := by
  obtain ⟨⟨O, h1, h2, h3⟩⟩ := h
  exact ⟨⟨O, h1.below hs, h2, bel_tr h3 hs⟩⟩
theorem One.bel {w0 w : World} {pd : Nat} {ds : DS} (h : One w0 w pd ds) : Below w0.heap.size w0 w := by
  obtain ⟨⟨O, h1, h2, h3⟩⟩ := h
  exact h3

section
variable {w0 w : World} {pd : Nat} {ds ds' : DS}

theorem one_new (hb : Below w0.heap.size w0 w) (room r : Int) (hr : -9223372036854775808 ≤ room ∧ room < 9223372036854775808) (hm : max room 0 = r) :
    Calls Try.prog 13 #[.int .i64 room] w fun e w' => ∃ pd, e = .returned (.pointer (some ⟨pd, 0, none⟩)) ∧ One w0 w' pd ⟨r, 0, false, []⟩ :=
  (new_val room r w hr hm).mono fun _ _ ⟨pd, h1, h2, h3⟩ => ⟨pd, h1, ⟨⟨_, h2, fun _ hk => Nat.le_trans hb.size hk.1, bel_tr hb h3⟩⟩⟩

theorem one_append (h : One w0 w pd ds) (s d : ByteArray) (hs : s.size ≤ maxLen) (hd : d.size ≤ 140737488355328) (q : Int) (hq : begE ds (refA ds s.data.toList d.data.toList) = q)
    (hds : doD ds (refA ds s.data.toList d.data.toList) (fapp s.data.toList d.data.toList) = ds') :
    Calls Try.prog 15 #[.pointer (some ⟨pd, 0, none⟩), .string s, .string d] w fun e w' => e = .returned (.int .i64 q) ∧ One w0 w' pd ds' := by
  obtain ⟨⟨O, h1, h2, h3⟩⟩ := h
  exact (append_val h1 s d hs hd q hq hds).mono fun e w' ⟨e1, e2, e3⟩ => ⟨e1, one_grow h2 h3 e2 e3⟩

theorem one_sync (h : One w0 w pd ds) (s : ByteArray) (hs : s.size ≤ maxLen) (q : Int) (hq : begE ds (refM ds.S s.data.toList) = q) (hds : doD ds (refM ds.S s.data.toList) (fsyn s.data.toList) = ds') :
    Calls Try.prog 70 #[.pointer (some ⟨pd, 0, none⟩), .string s] w fun e w' => e = .returned (.int .i64 q) ∧ One w0 w' pd ds' := by
  obtain ⟨⟨O, h1, h2, h3⟩⟩ := h
  exact (sync_val h1 s hs q hq hds).mono fun e w' ⟨e1, e2, e3⟩ => ⟨e1, one_grow h2 h3 e2 e3⟩

theorem one_delete (h : One w0 w pd ds) (s : ByteArray) (hs : s.size ≤ maxLen) (q : Int) (hq : begE ds (refM ds.S s.data.toList) = q) (hds : doD ds (refM ds.S s.data.toList) (fun S => fdel S s.data.toList) = ds') :
    Calls Try.prog 69 #[.pointer (some ⟨pd, 0, none⟩), .string s] w fun e w' => e = .returned (.int .i64 q) ∧ One w0 w' pd ds' := by
  obtain ⟨⟨O, h1, h2, h3⟩⟩ := h
  exact (delete_val h1 s hs q hq hds).mono fun e w' ⟨e1, e2, e3⟩ => ⟨e1, one_grow h2 h3 e2 e3⟩

theorem one_rename (h : One w0 w pd ds) (s d : ByteArray) (hs : s.size ≤ maxLen) (hd : d.size ≤ maxLen) (q : Int) (hq : begE ds (refR ds.S s.data.toList d.data.toList) = q) (hds : doD ds (refR ds.S s.data.toList d.data.toList) (fren s.data.toList d.data.toList) = ds') :
    Calls Try.prog 53 #[.pointer (some ⟨pd, 0, none⟩), .string s, .string d] w fun e w' => e = .returned (.int .i64 q) ∧ One w0 w' pd ds' := by
  obtain ⟨⟨O, h1, h2, h3⟩⟩ := h
  exact (rename_val h1 s d hs hd q hq hds).mono fun e w' ⟨e1, e2, e3⟩ => ⟨e1, one_grow h2 h3 e2 e3⟩

theorem one_fuse (h : One w0 w pd ds) (n f : Int) (hn : -9223372036854775808 ≤ n ∧ n < 9223372036854775808) (hf : max n 0 = f) :
    Calls Try.prog 24 #[.pointer (some ⟨pd, 0, none⟩), .int .i64 n] w fun e w' => e = .returned (.tuple #[]) ∧ One w0 w' pd { ds with fuse := f } := by
  obtain ⟨⟨O, h1, h2, h3⟩⟩ := h
  exact (fuse_val h1 n f hn hf).mono fun e w' ⟨e1, e2, e3⟩ => ⟨e1, one_same h2 h3 e2 e3⟩

theorem one_crash (h : One w0 w pd ds) (ka : Option Addr) (kb koff kcap m : Nat) (ks : List Int) (hm : ks.length = m) (hmx : m ≤ maxLen) (hI : Ints w0 .i64 ka kb koff ks) (hks : ∀ k ∈ ks, -9223372036854775808 ≤ k ∧ k ≤ 9223372036854775807) :
    Calls Try.prog 23 #[.pointer (some ⟨pd, 0, none⟩), .slice ka m kcap] w fun e w' => e = .returned (.tuple #[]) ∧ One w0 w' pd ⟨ds.room, 0, false, crashL ks ds.S⟩ := by
  obtain ⟨⟨O, h1, h2, h3⟩⟩ := h
  refine (crash_val h1 ka kb koff kcap m ks hm hmx (hI.below h3) (fun hp e => ?_) hks).mono fun e w' ⟨e1, e2, e3⟩ => ⟨e1, one_same h2 h3 e2 e3⟩
  have := hI.lt (by omega)
  have := h2 kb e
  omega

theorem one_read (h : One w0 w pd ds) (s : ByteArray) (hs : s.size ≤ maxLen) (t : ByteArray) (q : Int) (ht : rdT ds s.data.toList = t) (hq : rdE ds s.data.toList = q) :
    Calls Try.prog 41 #[.pointer (some ⟨pd, 0, none⟩), .string s] w fun e w' => e = .returned (.tuple #[.string t, .int .i64 q]) ∧ One w0 w' pd ds := by
  obtain ⟨⟨O, h1, h2, h3⟩⟩ := h
  exact (read_val h1 s hs t q ht hq).mono fun e w' ⟨e1, e2⟩ => ⟨e1, ⟨⟨O, h1.below e2, h2, bel_tr h3 e2⟩⟩⟩

end

/-- Two disks that have nothing in common. -/
def Two (w0 w : World) (p1 : Nat) (d1 : DS) (p2 : Nat) (d2 : DS) : Prop := ∃ O1 O2, DAt O1 w p1 d1 ∧ DAt O2 w p2 d2 ∧ (∀ k, O1 k → ¬ O2 k) ∧ (∀ k, O1 k → w0.heap.size ≤ k) ∧ (∀ k, O2 k → w0.heap.size ≤ k) ∧ Below w0.heap.size w0 w

section
variable {w0 w : World} {p1 p2 : Nat} {d1 d1' d2 : DS}

theorem two_new (h : One w0 w p1 d1) (room r : Int) (hr : -9223372036854775808 ≤ room ∧ room < 9223372036854775808) (hm : max room 0 = r) :
    Calls Try.prog 13 #[.int .i64 room] w fun e w' => ∃ pd, e = .returned (.pointer (some ⟨pd, 0, none⟩)) ∧ Two w0 w' p1 d1 pd ⟨r, 0, false, []⟩ := by
  obtain ⟨⟨O, h1, h2, h3⟩⟩ := h
  exact (new_val room r w hr hm).mono fun e w' ⟨pd, e1, e2, e3⟩ => ⟨pd, e1, O, _, h1.below e3, e2, fun k hk e => by have := h1.lt k hk; omega, h2, fun k hk => Nat.le_trans h3.size hk.1, bel_tr h3 e3⟩

theorem two_append (h : Two w0 w p1 d1 p2 d2) (s d : ByteArray) (hs : s.size ≤ maxLen) (hd : d.size ≤ 140737488355328) (q : Int) (hq : begE d1 (refA d1 s.data.toList d.data.toList) = q)
    (hds : doD d1 (refA d1 s.data.toList d.data.toList) (fapp s.data.toList d.data.toList) = d1') :
    Calls Try.prog 15 #[.pointer (some ⟨p1, 0, none⟩), .string s, .string d] w fun e w' => e = .returned (.int .i64 q) ∧ Two w0 w' p1 d1' p2 d2 := by
  obtain ⟨O1, O2, h1, h2, hx, l1, l2, hb⟩ := h
  exact (append_val h1 s d hs hd q hq hds).mono fun e w' ⟨e1, e2, e3⟩ => ⟨e1, _, O2, e2, h2.stay e3 (fun k h2k h1k => hx k h1k h2k), fun k hk e => hk.elim (fun hk => hx k hk e) (fun hk => by have := h2.lt k e; omega), fun k hk => hk.elim (l1 k) (fun hk => Nat.le_trans hb.size hk.1), l2, hb.trans (e3.below hb.size l1)⟩

theorem two_sync (h : Two w0 w p1 d1 p2 d2) (s : ByteArray) (hs : s.size ≤ maxLen) (q : Int) (hq : begE d1 (refM d1.S s.data.toList) = q) (hds : doD d1 (refM d1.S s.data.toList) (fsyn s.data.toList) = d1') :
    Calls Try.prog 70 #[.pointer (some ⟨p1, 0, none⟩), .string s] w fun e w' => e = .returned (.int .i64 q) ∧ Two w0 w' p1 d1' p2 d2 := by
  obtain ⟨O1, O2, h1, h2, hx, l1, l2, hb⟩ := h
  exact (sync_val h1 s hs q hq hds).mono fun e w' ⟨e1, e2, e3⟩ => ⟨e1, _, O2, e2, h2.stay e3 (fun k h2k h1k => hx k h1k h2k), fun k hk e => hk.elim (fun hk => hx k hk e) (fun hk => by have := h2.lt k e; omega), fun k hk => hk.elim (l1 k) (fun hk => Nat.le_trans hb.size hk.1), l2, hb.trans (e3.below hb.size l1)⟩

/-- A crash; what is kept lies in a new block. -/
theorem two_crash (h : Two w0 w p1 d1 p2 d2) (t : TypeId) (z : Int) (hz : -9223372036854775808 ≤ z ∧ z ≤ 9223372036854775807) :
    Calls Try.prog 23 #[.pointer (some ⟨p1, 0, none⟩), .slice (some ⟨w.heap.size, 0, none⟩) 1 1] (w.alloc (.cells #[.int .i64 z] t)) fun e w' => e = .returned (.tuple #[]) ∧ Two w0 w' p1 ⟨d1.room, 0, false, crashL [z] d1.S⟩ p2 d2 := by
  obtain ⟨O1, O2, h1, h2, hx, l1, l2, hb⟩ := h
  have b1 : Below w.heap.size w (w.alloc (.cells #[.int .i64 z] t)) := (Below.refl _ w).alloc (Nat.le_refl _) _
  refine (crash_val (h1.below b1) _ w.heap.size 0 1 1 [z] rfl (by unfold maxLen; omega) ⟨fun _ => rfl, fun j hj => ?_⟩ (fun _ e => by have := h1.lt _ e; omega) (fun k hk => by rw [List.mem_singleton.1 hk]; exact hz)).mono fun e w' ⟨e1, e2, e3⟩ => ⟨e1, O1, O2, e2, (h2.below b1).stay e3 (fun k h2k h1k => hx k h1k h2k), hx, l1, l2, ?_⟩
  · have hj0 : j = 0 := by simpa using hj
    subst hj0
    exact World.cell?_alloc_new w _ t 0
  · have b2 := bel_tr hb b1
    exact b2.trans (e3.below b2.size l1)

theorem two_read (h : Two w0 w p1 d1 p2 d2) (s : ByteArray) (hs : s.size ≤ maxLen) (t : ByteArray) (q : Int) (ht : rdT d1 s.data.toList = t) (hq : rdE d1 s.data.toList = q) :
    Calls Try.prog 41 #[.pointer (some ⟨p1, 0, none⟩), .string s] w fun e w' => e = .returned (.tuple #[.string t, .int .i64 q]) ∧ One w0 w' p2 d2 := by
  obtain ⟨O1, O2, h1, h2, hx, l1, l2, hb⟩ := h
  exact (read_val h1 s hs t q ht hq).mono fun e w' ⟨e1, e2⟩ => ⟨e1, ⟨⟨O2, h2.below e2, l2, bel_tr hb e2⟩⟩⟩

end

/-! ### without a fuse -/
theorem begE_plain (room : Int) (S : FS) (e : Int) : begE ⟨room, 0, false, S⟩ e = e := by unfold begE; simp
theorem doD_plain (room : Int) (S : FS) (f : FS → FS) : doD ⟨room, 0, false, S⟩ 0 f = ⟨room, 0, false, f S⟩ := by unfold doD begE begD; simp
theorem doD_no (room : Int) (S : FS) (f : FS → FS) {e : Int} (he : e ≠ 0) : doD ⟨room, 0, false, S⟩ e f = ⟨room, 0, false, S⟩ := by unfold doD begE begD; simp [he]

end Go.Proofs.Ytokldcifhjkmnaa
