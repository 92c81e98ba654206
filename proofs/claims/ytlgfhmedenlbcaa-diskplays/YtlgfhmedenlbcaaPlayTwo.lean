/- The disk and the document's, side by side. -/
import Derived.Test.YtlgfhmedenlbcaaPlayF7
import Derived.Test.YtlgfhmedenlbcaaDiskOne
import Derived.Test.YtlgfhmedenlbcaaDiskPick
import Derived.Test.YtlgfhmedenlbcaaDiskDeed
namespace Go.Proofs.Ytlgfhmedenlbcaa
open Go.RowKit

/-- The disk stands at d1, the document's at d2; nothing in common; a block pf, which is no part of them, holds B. -/
structure Half (w0 : World) (pf : Option Nat) (B : Option Obj) (w : World) (pd px : Nat) (d1 d2 : DS) : Prop where
  out : ∃ O1 O2, DAt O1 w pd d1 ∧ (∃ a c g, RAt O2 w px a c g d2) ∧ Fit d2 ∧ (∀ k, O1 k → ¬ O2 k) ∧ (∀ k, O1 k → w0.heap.size ≤ k) ∧ (∀ k, O2 k → w0.heap.size ≤ k) ∧ Below w0.heap.size w0 w ∧ (∀ k, pf = some k → ¬ O1 k ∧ ¬ O2 k ∧ k < w.heap.size ∧ w.heap[k]? = B)

theorem fit_of {O : Nat → Prop} {w : World} {pd : Nat} {ds : DS} (h : DAt O w pd ds) : Fit ds := by
  obtain ⟨b, V, B, h⟩ := h
  exact ⟨h.rise, h.name, h.data, h.most, h.r0, h.fu⟩
theorem lt_of {O : Nat → Prop} {w : World} {pd : Nat} {ds : DS} (h : DAt O w pd ds) : ∀ k, O k → k < w.heap.size := by
  obtain ⟨b, V, B, h⟩ := h
  exact h.lt

section
variable {w0 w : World} {pf : Option Nat} {B : Option Obj} {pd px : Nat} {ds d1 d2 : DS}

theorem Half.bel (h : Half w0 pf B w pd px d1 d2) : Below w0.heap.size w0 w := by
  obtain ⟨O1, O2, _, _, _, _, _, _, h, _⟩ := h.out
  exact h
theorem Half.below {w' : World} (h : Half w0 pf B w pd px d1 d2) (hb : Below w.heap.size w w') : Half w0 pf B w' pd px d1 d2 := by
  obtain ⟨O1, O2, h1, ⟨a, c, g, h2⟩, hf, h3, h4, h5, h6, hp⟩ := h.out
  exact ⟨O1, O2, h1.below hb, ⟨a, c, g, h2.below hb⟩, hf, h3, h4, h5, bel_tr h6 hb, fun k hk => by obtain ⟨n1, n2, n3, n4⟩ := hp k hk; exact ⟨n1, n2, Nat.lt_of_lt_of_le n3 hb.size, (hb.block k n3).trans n4⟩⟩

theorem Half.cell {k : Nat} (h : Half w0 (some k) B w pd px d1 d2) {wa : World} (hB : wa.heap[k]? = B) (j : Nat) : w.cell? ⟨k, j, none⟩ = wa.cell? ⟨k, j, none⟩ := by
  obtain ⟨O1, O2, _, _, _, _, _, _, _, hp⟩ := h.out
  exact World.cell?_of_block (a := ⟨k, j, none⟩) ((hp k rfl).2.2.2.trans hB.symm)

theorem Half.box (h : Half w0 pf B w pd px d1 d2) (o : Obj) : Half w0 (some w.heap.size) ((w.alloc o).heap[w.heap.size]?) (w.alloc o) pd px d1 d2 := by
  obtain ⟨O1, O2, h1, ⟨a, c, g, h2⟩, hf, h3, h4, h5, h6, hp⟩ := h.out
  have hb : Below w.heap.size w (w.alloc o) := (Below.refl _ w).alloc (Nat.le_refl _) o
  exact ⟨O1, O2, h1.below hb, ⟨a, c, g, h2.below hb⟩, hf, h3, h4, h5, bel_tr h6 hb, fun k hk => by
    cases hk
    exact ⟨fun e => by have := lt_of h1 _ e; omega, fun e => by have := h2.lt _ e; omega, by simp, rfl⟩⟩

/-- The disk has done something. -/
theorem half_do {O1 O2 O1' : Nat → Prop} {w' : World} {a : Option Addr} {c : Nat} {g : Option Nat} {d1' : DS} (h2 : RAt O2 w px a c g d2) (hf : Fit d2) (h3 : ∀ k, O1 k → ¬ O2 k) (h4 : ∀ k, O1 k → w0.heap.size ≤ k) (h5 : ∀ k, O2 k → w0.heap.size ≤ k) (h6 : Below w0.heap.size w0 w) (hp : ∀ k, pf = some k → ¬ O1 k ∧ ¬ O2 k ∧ k < w.heap.size ∧ w.heap[k]? = B)
    (e1 : DAt O1' w' pd d1') (hO : ∀ k, O1' k → Grow O1 w w' k) (e2 : Stay O1 w w') : Half w0 pf B w' pd px d1' d2 := by
  refine ⟨O1', O2, e1, ⟨a, c, g, h2.stay e2 (fun k h2k h1k => h3 k h1k h2k)⟩, hf, fun k hk e => ?_, fun k hk => ?_, h5, h6.trans (e2.below h6.size h4), fun k hk => by obtain ⟨n1, n2, n3, n4⟩ := hp k hk; exact ⟨fun e => (hO k e).elim n1 (fun e => by omega), n2, Nat.lt_of_lt_of_le n3 e2.size, (e2.block k n3 n1).trans n4⟩⟩
  · rcases hO k hk with hk | hk
    · exact h3 k hk e
    · have := h2.lt k e; omega
  · rcases hO k hk with hk | hk
    · exact h4 k hk
    · exact Nat.le_trans h6.size hk.1

/-- The document's has done the same. -/
theorem half_same {O1 O2 O2' : Nat → Prop} {w' : World} {a : Option Addr} {c : Nat} {g : Option Nat} (h1 : DAt O1 w pd d1) (h3 : ∀ k, O1 k → ¬ O2 k) (h4 : ∀ k, O1 k → w0.heap.size ≤ k) (h5 : ∀ k, O2 k → w0.heap.size ≤ k) (h6 : Below w0.heap.size w0 w) (hp : ∀ k, pf = some k → ¬ O1 k ∧ ¬ O2 k ∧ k < w.heap.size ∧ w.heap[k]? = B)
    (e1 : RAt O2' w' px a c g d1) (hO : ∀ k, O2' k → Grow O2 w w' k) (e2 : Stay O2 w w') : Half w0 pf B w' pd px d1 d1 := by
  have hl := lt_of h1
  refine ⟨O1, O2', h1.stay e2 (fun k h1k h2k => h3 k h1k h2k), ⟨a, c, g, e1⟩, fit_of h1, fun k hk e => ?_, h4, fun k hk => ?_, h6.trans (e2.below h6.size h5), fun k hk => by obtain ⟨n1, n2, n3, n4⟩ := hp k hk; exact ⟨n1, fun e => (hO k e).elim n2 (fun e => by omega), Nat.lt_of_lt_of_le n3 e2.size, (e2.block k n3 n2).trans n4⟩⟩
  · rcases hO k e with e | e
    · exact h3 k hk e
    · have := hl k hk; omega
  · rcases hO k hk with hk | hk
    · exact h5 k hk
    · exact Nat.le_trans h6.size hk.1

theorem d_append (h : Half w0 pf B w pd px ds ds) (s d : ByteArray) (hs : s.size ≤ maxLen) (hd : d.size ≤ 140737488355328) (q : Int) (hq : begE ds (refA ds s.data.toList d.data.toList) = q) {ds' : DS} (hds : doD ds (refA ds s.data.toList d.data.toList) (fapp s.data.toList d.data.toList) = ds') :
    Calls Try.prog 19 #[.pointer (some ⟨pd, 0, none⟩), .string s, .string d] w fun e w' => e = .returned (.int .i64 q) ∧ Half w0 pf B w' pd px ds' ds := by
  obtain ⟨O1, O2, h1, ⟨a, c, g, h2⟩, hf, h3, h4, h5, h6, hp⟩ := h.out
  exact (append_val h1 s d hs hd q hq hds).mono fun e w' ⟨e1, e2, e3⟩ => ⟨e1, half_do h2 hf h3 h4 h5 h6 hp e2 (fun _ e => e) e3⟩
theorem x_append {ds' : DS} (h : Half w0 pf B w pd px ds' ds) (s d : ByteArray) (hs : s.size ≤ maxLen) (hd : d.size ≤ 140737488355328) (q : Int) (hq : begE ds (refA ds s.data.toList d.data.toList) = q) (hds : doD ds (refA ds s.data.toList d.data.toList) (fapp s.data.toList d.data.toList) = ds') :
    Calls Try.prog 27 #[.pointer (some ⟨px, 0, none⟩), .string s, .string d] w fun e w' => e = .returned (.int .i64 q) ∧ Half w0 pf B w' pd px ds' ds' := by
  obtain ⟨O1, O2, h1, ⟨a, c, g, h2⟩, hf, h3, h4, h5, h6, hp⟩ := h.out
  have hl : ∀ t : ByteArray, t.data.toList.length = t.size := fun t => Array.length_toList
  exact (refAppend_val h2 hf s.data.toList d.data.toList (by rw [hl]; exact hs) (by rw [hl]; exact hd) q hq hds).mono fun e w' ⟨e1, ⟨a', c', g', e2⟩, e3⟩ => ⟨e1, half_same h1 h3 h4 h5 h6 hp e2 (fun _ e => e) e3⟩

theorem d_sync (h : Half w0 pf B w pd px ds ds) (s : ByteArray) (hs : s.size ≤ maxLen) (q : Int) (hq : begE ds (refM ds.S s.data.toList) = q) {ds' : DS} (hds : doD ds (refM ds.S s.data.toList) (fsyn s.data.toList) = ds') :
    Calls Try.prog 20 #[.pointer (some ⟨pd, 0, none⟩), .string s] w fun e w' => e = .returned (.int .i64 q) ∧ Half w0 pf B w' pd px ds' ds := by
  obtain ⟨O1, O2, h1, ⟨a, c, g, h2⟩, hf, h3, h4, h5, h6, hp⟩ := h.out
  exact (sync_val h1 s hs q hq hds).mono fun e w' ⟨e1, e2, e3⟩ => ⟨e1, half_do h2 hf h3 h4 h5 h6 hp e2 (fun _ e => e) e3⟩
theorem x_sync {ds' : DS} (h : Half w0 pf B w pd px ds' ds) (s : ByteArray) (q : Int) (hq : begE ds (refM ds.S s.data.toList) = q) (hds : doD ds (refM ds.S s.data.toList) (fsyn s.data.toList) = ds') :
    Calls Try.prog 28 #[.pointer (some ⟨px, 0, none⟩), .string s] w fun e w' => e = .returned (.int .i64 q) ∧ Half w0 pf B w' pd px ds' ds' := by
  obtain ⟨O1, O2, h1, ⟨a, c, g, h2⟩, hf, h3, h4, h5, h6, hp⟩ := h.out
  exact (refSync_val h2 hf s.data.toList q hq hds).mono fun e w' ⟨e1, ⟨a', c', g', e2⟩, e3⟩ => ⟨e1, half_same h1 h3 h4 h5 h6 hp e2 (fun _ e => e) e3⟩

theorem d_delete (h : Half w0 pf B w pd px ds ds) (s : ByteArray) (hs : s.size ≤ maxLen) (q : Int) (hq : begE ds (refM ds.S s.data.toList) = q) {ds' : DS} (hds : doD ds (refM ds.S s.data.toList) (fun S => fdel S s.data.toList) = ds') :
    Calls Try.prog 25 #[.pointer (some ⟨pd, 0, none⟩), .string s] w fun e w' => e = .returned (.int .i64 q) ∧ Half w0 pf B w' pd px ds' ds := by
  obtain ⟨O1, O2, h1, ⟨a, c, g, h2⟩, hf, h3, h4, h5, h6, hp⟩ := h.out
  exact (delete_val h1 s hs q hq hds).mono fun e w' ⟨e1, e2, e3⟩ => ⟨e1, half_do h2 hf h3 h4 h5 h6 hp e2 (fun _ e => e) e3⟩
theorem x_delete {ds' : DS} (h : Half w0 pf B w pd px ds' ds) (s : ByteArray) (q : Int) (hq : begE ds (refM ds.S s.data.toList) = q) (hds : doD ds (refM ds.S s.data.toList) (fun S => fdel S s.data.toList) = ds') :
    Calls Try.prog 30 #[.pointer (some ⟨px, 0, none⟩), .string s] w fun e w' => e = .returned (.int .i64 q) ∧ Half w0 pf B w' pd px ds' ds' := by
  obtain ⟨O1, O2, h1, ⟨a, c, g, h2⟩, hf, h3, h4, h5, h6, hp⟩ := h.out
  exact (refDelete_val h2 hf s.data.toList q hq hds).mono fun e w' ⟨e1, ⟨a', c', g', e2⟩, e3⟩ => ⟨e1, half_same h1 h3 h4 h5 h6 hp e2 (fun _ e => e) e3⟩

theorem d_rename (h : Half w0 pf B w pd px ds ds) (s d : ByteArray) (hs : s.size ≤ maxLen) (hd : d.size ≤ maxLen) (q : Int) (hq : begE ds (refR ds.S s.data.toList d.data.toList) = q) {ds' : DS} (hds : doD ds (refR ds.S s.data.toList d.data.toList) (fren s.data.toList d.data.toList) = ds') :
    Calls Try.prog 26 #[.pointer (some ⟨pd, 0, none⟩), .string s, .string d] w fun e w' => e = .returned (.int .i64 q) ∧ Half w0 pf B w' pd px ds' ds := by
  obtain ⟨O1, O2, h1, ⟨a, c, g, h2⟩, hf, h3, h4, h5, h6, hp⟩ := h.out
  exact (rename_val h1 s d hs hd q hq hds).mono fun e w' ⟨e1, e2, e3⟩ => ⟨e1, half_do h2 hf h3 h4 h5 h6 hp e2 (fun _ e => e) e3⟩
theorem x_rename {ds' : DS} (h : Half w0 pf B w pd px ds' ds) (s d : ByteArray) (hd : d.size ≤ maxLen) (q : Int) (hq : begE ds (refR ds.S s.data.toList d.data.toList) = q) (hds : doD ds (refR ds.S s.data.toList d.data.toList) (fren s.data.toList d.data.toList) = ds') :
    Calls Try.prog 29 #[.pointer (some ⟨px, 0, none⟩), .string s, .string d] w fun e w' => e = .returned (.int .i64 q) ∧ Half w0 pf B w' pd px ds' ds' := by
  obtain ⟨O1, O2, h1, ⟨a, c, g, h2⟩, hf, h3, h4, h5, h6, hp⟩ := h.out
  have hl : ∀ t : ByteArray, t.data.toList.length = t.size := fun t => Array.length_toList
  exact (refRename_val h2 hf s.data.toList d.data.toList (by rw [hl]; exact hd) q hq hds).mono fun e w' ⟨e1, ⟨a', c', g', e2⟩, e3⟩ => ⟨e1, half_same h1 h3 h4 h5 h6 hp e2 (fun _ e => e) e3⟩

theorem d_fuse (h : Half w0 pf B w pd px ds ds) (n f : Int) (hn : -9223372036854775808 ≤ n ∧ n < 9223372036854775808) (hf : max n 0 = f) :
    Calls Try.prog 24 #[.pointer (some ⟨pd, 0, none⟩), .int .i64 n] w fun e w' => e = .returned (.tuple #[]) ∧ Half w0 pf B w' pd px { ds with fuse := f } ds := by
  obtain ⟨O1, O2, h1, ⟨a, c, g, h2⟩, hf2, h3, h4, h5, h6, hp⟩ := h.out
  exact (fuse_val h1 n f hn hf).mono fun e w' ⟨e1, e2, e3⟩ => ⟨e1, half_do h2 hf2 h3 h4 h5 h6 hp e2 (fun _ e => .inl e) e3⟩
theorem x_fuse {f : Int} (h : Half w0 pf B w pd px { ds with fuse := f } ds) (n : Int) (hn : -9223372036854775808 ≤ n ∧ n < 9223372036854775808) (hf : max n 0 = f) :
    Calls Try.prog 31 #[.pointer (some ⟨px, 0, none⟩), .int .i64 n] w fun e w' => e = .returned (.tuple #[]) ∧ Half w0 pf B w' pd px { ds with fuse := f } { ds with fuse := f } := by
  obtain ⟨O1, O2, h1, ⟨a, c, g, h2⟩, hf2, h3, h4, h5, h6, hp⟩ := h.out
  exact (refFuse_val h2 n f hn hf).mono fun e w' ⟨e1, e2, e3⟩ => ⟨e1, half_same h1 h3 h4 h5 h6 hp e2 (fun _ e => .inl e) e3⟩

theorem d_crash (h : Half w0 pf B w pd px ds ds) (ka : Option Addr) (kb koff kcap m : Nat) (ks : List Int) (hm : ks.length = m) (hmx : m ≤ maxLen) (hI : Ints w0 .i64 ka kb koff ks) (hks : ∀ k ∈ ks, -9223372036854775808 ≤ k ∧ k ≤ 9223372036854775807) :
    Calls Try.prog 21 #[.pointer (some ⟨pd, 0, none⟩), .slice ka m kcap] w fun e w' => e = .returned (.tuple #[]) ∧ Half w0 pf B w' pd px ⟨ds.room, 0, false, crashL ks ds.S⟩ ds := by
  obtain ⟨O1, O2, h1, ⟨a, c, g, h2⟩, hf, h3, h4, h5, h6, hp⟩ := h.out
  refine (crash_val h1 ka kb koff kcap m ks hm hmx (hI.below h6) (fun hp e => ?_) hks).mono fun e w' ⟨e1, e2, e3⟩ => ⟨e1, half_do h2 hf h3 h4 h5 h6 hp e2 (fun _ e => .inl e) e3⟩
  have := hI.lt (by omega)
  have := h4 kb e
  omega
theorem x_crash (ka : Option Addr) (kb koff kcap m : Nat) (ks : List Int) (h : Half w0 pf B w pd px ⟨ds.room, 0, false, crashL ks ds.S⟩ ds) (hm : ks.length = m) (hmx : m ≤ maxLen) (hI : Ints w0 .i64 ka kb koff ks) (hks : ∀ k ∈ ks, -9223372036854775808 ≤ k ∧ k ≤ 9223372036854775807) :
    Calls Try.prog 32 #[.pointer (some ⟨px, 0, none⟩), .slice ka m kcap] w fun e w' => e = .returned (.tuple #[]) ∧ Half w0 pf B w' pd px ⟨ds.room, 0, false, crashL ks ds.S⟩ ⟨ds.room, 0, false, crashL ks ds.S⟩ := by
  obtain ⟨O1, O2, h1, ⟨a, c, g, h2⟩, hf, h3, h4, h5, h6, hp⟩ := h.out
  exact (refCrash_val h2 hf ka kb koff kcap m ks hm hmx (hI.below h6) hks).mono fun e w' ⟨e1, ⟨a', c', g', e2⟩, e3⟩ => ⟨e1, half_same h1 h3 h4 h5 h6 hp e2 (fun _ e => e) e3⟩

theorem d_read (h : Half w0 pf B w pd px ds ds) (s : ByteArray) (hs : s.size ≤ maxLen) (t : ByteArray) (q : Int) (ht : rdT ds s.data.toList = t) (hq : rdE ds s.data.toList = q) :
    Calls Try.prog 22 #[.pointer (some ⟨pd, 0, none⟩), .string s] w fun e w' => e = .returned (.tuple #[.string t, .int .i64 q]) ∧ Half w0 pf B w' pd px ds ds := by
  obtain ⟨O1, O2, h1, ⟨a, c, g, h2⟩, hf, h3, h4, h5, h6, hp⟩ := h.out
  exact (read_val h1 s hs t q ht hq).mono fun e w' ⟨e1, e2⟩ => ⟨e1, h.below e2⟩
theorem x_read (h : Half w0 pf B w pd px ds ds) (s : ByteArray) (t : ByteArray) (q : Int) (ht : rdT ds s.data.toList = t) (hq : rdE ds s.data.toList = q) :
    Calls Try.prog 33 #[.pointer (some ⟨px, 0, none⟩), .string s] w fun e w' => e = .returned (.tuple #[.string t, .int .i64 q]) ∧ w' = w := by
  obtain ⟨O1, O2, h1, ⟨a, c, g, h2⟩, hf, h3, h4, h5, h6, hp⟩ := h.out
  exact refRead_val h2 hf s.data.toList t q ht hq

end

end Go.Proofs.Ytlgfhmedenlbcaa
