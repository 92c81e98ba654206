/- Part 15 of the proof: DiskF6, DiskF7, DiskF8, DiskOne, DiskOk, DiskPick. -/
import Derived.Test.YtfmhmokbbkliaaaGreatB04
import Derived.Test.YtfmhmokbbkliaaaGreatB14
import Derived.Laws.BytesArg

/- The contracts of disk.Read, List, Used, Down, Fuse. -/
namespace Go.Proofs.YtfmhmokbbkliaaaGreat
open Go.RowKit

def rdE (ds : DS) (n : List UInt8) : Int := if ds.down then 12 else refM ds.S n
def rdT (ds : DS) (n : List UInt8) : ByteArray := if ds.down then ⟨#[]⟩ else ⟨(fdat ds.S n).toArray⟩

theorem rdE_eq {ds : DS} (n : List UInt8) (h : ds.down = false) : rdE ds n = refM ds.S n := by unfold rdE; rw [h]; rfl
theorem rdT_eq {ds : DS} (n : List UInt8) (h : ds.down = false) : rdT ds n = ⟨(fdat ds.S n).toArray⟩ := by unfold rdT; rw [h]; rfl

theorem fieldF (a : Option Addr) (L c : Nat) (s : Int) (w : World) : (Instr.field 115 (.agg #[.slice a L c, .int .i64 s]) 0).run Tryz.prog w = .ok (.slice a L c) w := by kernel_rfl

theorem byt_string {O : Nat → Prop} {w : World} {a : Option Addr} {c : Nat} {l : List UInt8} {g : Option Nat} (h : Byt O w (.slice a l.length c) l g) :
    (convert 113 9 (.slice a l.length c)).run Tryz.prog w = .ok (.string ⟨l.toArray⟩) w := by
  cases h with
  | nil h1 h2 =>
    subst h2
    cases h1
    exact run_convert_bytes_nil (P := Tryz.prog) w 113 5 Tryz.underlying113 Tryz.underlying5 0 0 9 Tryz.underlying9
  | row g cap h1 h2 h3 h4 h5 h6 h7 =>
    cases h1
    exact run_convert_bytes_back (P := Tryz.prog) w 113 9 5 ⟨g, 0, none⟩ _ l Tryz.underlying113 Tryz.underlying5 Tryz.underlying9 (fun j hj => by rw [Addr.add_lit, Nat.zero_add]; exact h6 j hj)

section
variable {O : Nat → Prop} {w : World} {pd : Nat} {ds : DS}

set_option maxRecDepth 100000 in
set_option maxHeartbeats 400000 in
theorem read_val (h : DAt O w pd ds) (s : ByteArray) (hs : s.size ≤ maxLen) (t : ByteArray) (q : Int) (ht : rdT ds s.data.toList = t) (hq : rdE ds s.data.toList = q) :
    Calls Tryz.prog 77 #[.pointer (some ⟨pd, 0, none⟩), .string s] w fun e w' => e = .returned (.tuple #[.string t, .int .i64 q]) ∧ Below w.heap.size w w' := by
  obtain ⟨room, fuse, down, S⟩ := ds
  obtain ⟨b, V, B, h⟩ := h
  have c3 : w.cell? ⟨pd, 3, none⟩ = some (.bool down) := h.c3
  have hkey := WideMaps.keyOf_string_mk (P := Tryz.prog) Tryz.underlying9 hs
  cases down with
  | true =>
    simp only [rdT, rdE, if_true] at ht hq
    subst ht hq
    clear h
    go_enter Tryz.func77, Tryz.ntmps77
    go_wp2
    go_ret2
    exact ⟨rfl, Below.refl _ _⟩
  | false =>
    simp only [rdT, rdE, Bool.false_eq_true, if_false] at ht hq
    have C1 : Hid _ := fun (_ : Unit) => refuseMissing_val h s hs q hq
    cases hf : fget S s.data.toList with
    | none =>
      have e5 : (5 : Int) = q := by rw [← hq]; unfold refM; rw [hf]; rfl
      have et : (⟨#[]⟩ : ByteArray) = t := by rw [← ht]; unfold fdat; rw [hf]
      subst e5 et
      clear h ht hq hf
      go_enter Tryz.func77, Tryz.ntmps77
      go_wp2_with fail
      refine (C1.out ()).mono ?_
      rintro e w1 ⟨rfl, b1⟩
      go_wp2
      go_ret2
      exact ⟨rfl, b1⟩
    | some f =>
      obtain ⟨l, sy⟩ := f
      have e5 : (0 : Int) = q := by rw [← hq]; unfold refM; rw [hf]; rfl
      have et : (⟨l.toArray⟩ : ByteArray) = t := by rw [← ht]; unfold fdat; rw [hf]
      subst e5 et
      have HH : Hid _ := h
      clear h ht hq
      go_enter Tryz.func77, Tryz.ntmps77
      go_wp2_with fail
      refine (C1.out ()).mono ?_
      rintro e w1 ⟨rfl, b1⟩
      have h1 := HH.out.below b1
      have c1 := h1.c1
      have hown := h1.own
      obtain ⟨a, c, hV, hy⟩ := h1.at hf
      have hat : (dm V S).atKey (.string s.data.toList) (.held (.agg #[.slice none 0 0, .int .i64 0])) = .held (.agg #[.slice a l.length c, .int .i64 (sy : Int)]) := by rw [dm_at, hf, hV]; rfl
      have hcv := byt_string hy
      have hfl := fieldF a l.length c sy w1
      clear h1 hV hy hf C1
      go_wp2_with (at_lookup; refine wpList_look _ rfl _ _ 92 rfl 9 115 lawK Tryz.underlying92 (zeroF _) (rv_mk _ _ _ _) b _ _ rfl hown _ _ rfl hkey _ hat ?_)
      go_ret2
      exact ⟨rfl, b1⟩

set_option maxRecDepth 100000 in
theorem down_val (h : DAt O w pd ds) (v : Bool) (hv : ds.down = v) :
    Calls Tryz.prog 36 #[.pointer (some ⟨pd, 0, none⟩)] w fun e w' => e = .returned (.bool v) ∧ w' = w := by
  obtain ⟨b, V, B, h⟩ := h
  have c3 := h.c3
  rw [hv] at c3
  clear h hv
  go_enter Tryz.func36, Tryz.ntmps36
  go_wp2
  go_ret
  exact ⟨rfl, rfl⟩

def usedN (ds : DS) : Nat := if ds.down then 0 else tot ds.S

set_option maxRecDepth 100000 in
theorem used_val (h : DAt O w pd ds) (n : Nat) (hn : usedN ds = n) :
    Calls Tryz.prog 75 #[.pointer (some ⟨pd, 0, none⟩)] w fun e w' => e = .returned (.int .i64 n) ∧ Below w.heap.size w w' := by
  obtain ⟨room, fuse, down, S⟩ := ds
  obtain ⟨b, V, B, h⟩ := h
  have c3 : w.cell? ⟨pd, 3, none⟩ = some (.bool down) := h.c3
  cases down with
  | true =>
    have : 0 = n := hn
    subst this
    clear h
    go_enter Tryz.func75, Tryz.ntmps75
    go_wp2
    go_ret
    exact ⟨rfl, Below.refl _ _⟩
  | false =>
    have C1 : Hid _ := fun (_ : Unit) => stored_val h n hn
    clear h hn
    go_enter Tryz.func75, Tryz.ntmps75
    go_wp2_with (go_at_call 117; refine (C1.out ()).mono ?_; rintro e w1 ⟨rfl, b1⟩)
    go_ret
    exact ⟨rfl, b1⟩

def listN (ds : DS) : List (List UInt8) := if ds.down then [] else ds.S.map (·.1)

set_option maxRecDepth 100000 in
theorem list_val (h : DAt O w pd ds) :
    Calls Tryz.prog 73 #[.pointer (some ⟨pd, 0, none⟩)] w fun e w' => ∃ v, e = .returned v ∧ w'.ownsRow w.heap.size 9 1 v (listN ds).length ((listN ds).map encStr) ∧ (v = .slice none 0 0 ↔ listN ds = []) ∧ Below w.heap.size w w' := by
  obtain ⟨room, fuse, down, S⟩ := ds
  obtain ⟨b, V, B, h⟩ := h
  have c3 : w.cell? ⟨pd, 3, none⟩ = some (.bool down) := h.c3
  cases down with
  | true =>
    clear h
    go_enter Tryz.func73, Tryz.ntmps73
    go_wp2
    go_ret
    exact ⟨_, rfl, World.ownsRow_nil _ _ _ _, ⟨fun _ => rfl, fun _ => rfl⟩, Below.refl _ _⟩
  | false =>
    have C1 : Hid _ := fun (_ : Unit) => names_val h
    clear h
    go_enter Tryz.func73, Tryz.ntmps73
    go_wp2_with (go_at_call 63; refine (C1.out ()).mono ?_; rintro e w1 ⟨v, rfl, hv, hn, b1⟩)
    go_ret
    exact ⟨v, rfl, by simpa [listN] using hv, by simpa [listN] using hn, b1⟩

set_option maxRecDepth 100000 in
theorem fuse_val (h : DAt O w pd ds) (n f : Int) (hn : -9223372036854775808 ≤ n ∧ n < 9223372036854775808) (hf : max n 0 = f) :
    Calls Tryz.prog 24 #[.pointer (some ⟨pd, 0, none⟩), .int .i64 n] w fun e w' => e = .returned (.tuple #[]) ∧ DAt O w' pd { ds with fuse := f } ∧ Stay O w w' := by
  obtain ⟨b, V, B, h⟩ := h
  have f2 := h.f2
  have c2 := h.c2
  have hf0 : 0 ≤ f ∧ f < 9223372036854775808 := by omega
  have D2 : Hid _ := h.setFuse f hf0
  have S2 : Hid _ := Stay.setCell (O := O) w ⟨pd, 2, none⟩ (.int .i64 f) h.oP
  clear h
  go_enter Tryz.func24, Tryz.ntmps24
  go_wp2
  go_end0
  exact ⟨rfl, ⟨b, V, B, D2.out⟩, S2.out⟩

end

end Go.Proofs.YtfmhmokbbkliaaaGreat

/- The contracts of disk.cut and disk.Crash. -/
namespace Go.Proofs.YtfmhmokbbkliaaaGreat
open Go.RowKit

set_option maxRecDepth 100000 in
set_option maxHeartbeats 400000 in
theorem cut_row (g L c sy e kn : Nat) (k : Int) (w : World) (hL : L ≤ 400000) (hs : sy ≤ L) (hc : L ≤ c) (hcm : c ≤ maxLen) (hk : -9223372036854775808 ≤ k ∧ k ≤ 9223372036854775807) (hn : keepN k = kn) (he : sy + kn % (L - sy + 1) = e) :
    Calls Tryz.prog 64 #[.agg #[.slice (some ⟨g, 0, none⟩) L c, .int .i64 (sy : Int)], .int .i64 k] w fun x w' => x = .returned (.agg #[.slice (some ⟨g, 0, none⟩) e c, .int .i64 (e : Int)]) ∧ Below w.heap.size w w' := by
  have hlt := Nat.mod_lt kn (show 0 < L - sy + 1 by omega)
  have heL : e ≤ L := by omega
  have hcm2 : c ≤ 9223372036854775807 := by unfold maxLen at hcm; omega
  obtain ⟨m, hm⟩ : ∃ m, L - sy = m := ⟨_, rfl⟩
  have hD : (L : Int) - (sy : Int) = (m : Int) := by omega
  rw [hm] at hlt he
  obtain ⟨Q, hQ⟩ : ∃ Q, kn % (m + 1) = Q := ⟨_, rfl⟩
  rw [hQ] at hlt he
  have hr1 : (kn : Int).tmod ((m : Int) + 1) = (Q : Int) := by
    rw [Int.tmod_eq_emod_of_nonneg (by omega), ← hQ]; rfl
  have hr2 : (kn : Int) % ((m : Int) + 1) = (Q : Int) := by rw [← hQ]; rfl
  have hqe : (sy : Int) + (Q : Int) = (e : Int) := by omega
  have heL2 : e ≤ L := heL
  have hm4 : m ≤ 400000 := by omega
  clear hcm hQ hm he
  unfold keepN at hn
  by_cases hneg : k < 0
  · rw [if_pos hneg] at hn
    have hkk : -(k + 1) = (kn : Int) := by omega
    go_enter Tryz.func64, Tryz.ntmps64
    go_wp2
    go_region
    all_goals
      go_wp2
      refine bodyPost_ret (results_cell_row (P := Tryz.prog) rfl _ _ (w.heap.size + 1) 115 #[.slice (some ⟨g, 0, none⟩) e c, .int .i64 (e : Int)] (0, 0) _ rfl (heap_alloc2_new w _ _) Tryz.underlying115 rfl (by kernel_rfl)) rfl ⟨rfl, ((((Below.refl _ w).alloc (Nat.le_refl _) _).alloc (by simp) _).drew)⟩
  · rw [if_neg hneg] at hn
    obtain rfl : k = (kn : Int) := by omega
    clear hn hk
    go_enter Tryz.func64, Tryz.ntmps64
    go_wp2
    go_region
    all_goals
      go_wp2
      refine bodyPost_ret (results_cell_row (P := Tryz.prog) rfl _ _ (w.heap.size + 1) 115 #[.slice (some ⟨g, 0, none⟩) e c, .int .i64 (e : Int)] (0, 0) _ rfl (heap_alloc2_new w _ _) Tryz.underlying115 rfl (by kernel_rfl)) rfl ⟨rfl, ((((Below.refl _ w).alloc (Nat.le_refl _) _).alloc (by simp) _).drew)⟩

set_option maxRecDepth 100000 in
set_option maxHeartbeats 400000 in
theorem cut_nil (kn : Nat) (k : Int) (w : World) (hk : -9223372036854775808 ≤ k ∧ k ≤ 9223372036854775807) (hn : keepN k = kn) :
    Calls Tryz.prog 64 #[.agg #[.slice none 0 0, .int .i64 0], .int .i64 k] w fun x w' => x = .returned (.agg #[.slice none 0 0, .int .i64 0]) ∧ Below w.heap.size w w' := by
  have hr1 : (kn : Int).tmod 1 = 0 := Int.tmod_one _
  unfold keepN at hn
  by_cases hneg : k < 0
  · rw [if_pos hneg] at hn
    have hkk : -(k + 1) = (kn : Int) := by omega
    go_enter Tryz.func64, Tryz.ntmps64
    go_wp2
    go_region
    all_goals
      go_wp2
      refine bodyPost_ret (results_cell_row (P := Tryz.prog) rfl _ _ (w.heap.size + 1) 115 #[.slice none 0 0, .int .i64 0] (0, 0) _ rfl (heap_alloc2_new w _ _) Tryz.underlying115 rfl (by kernel_rfl)) rfl ⟨rfl, ((((Below.refl _ w).alloc (Nat.le_refl _) _).alloc (by simp) _).drew)⟩
  · rw [if_neg hneg] at hn
    obtain rfl : k = (kn : Int) := by omega
    clear hn hk
    go_enter Tryz.func64, Tryz.ntmps64
    go_wp2
    go_region
    all_goals
      go_wp2
      refine bodyPost_ret (results_cell_row (P := Tryz.prog) rfl _ _ (w.heap.size + 1) 115 #[.slice none 0 0, .int .i64 0] (0, 0) _ rfl (heap_alloc2_new w _ _) Tryz.underlying115 rfl (by kernel_rfl)) rfl ⟨rfl, ((((Below.refl _ w).alloc (Nat.le_refl _) _).alloc (by simp) _).drew)⟩

end Go.Proofs.YtfmhmokbbkliaaaGreat

/- The contract of disk.Crash. -/
namespace Go.Proofs.YtfmhmokbbkliaaaGreat
open Go.RowKit

theorem cut_val {O : Nat → Prop} {w0 : World} {a : Option Addr} {c : Nat} {l : List UInt8} {g : Option Nat} (hy : Byt O w0 (.slice a l.length c) l g) (sy : Nat) (k : Int) (w : World) (hL : l.length ≤ 400000) (hs : sy ≤ l.length) (hk : -9223372036854775808 ≤ k ∧ k ≤ 9223372036854775807) (e : Nat) (he : cutN (l, sy) k = e) :
    Calls Tryz.prog 64 #[.agg #[.slice a l.length c, .int .i64 (sy : Int)], .int .i64 k] w fun x w' => x = .returned (.agg #[.slice a e c, .int .i64 (e : Int)]) ∧ Below w.heap.size w w' := by
  cases hy with
  | nil h1 h2 =>
    subst h2
    cases h1
    have : e = 0 := by
      have hs0 : sy = 0 := by simpa using hs
      rw [← he, hs0]; unfold cutN; simp; omega
    subst this
    have hs0 : sy = 0 := by simpa using hs
    subst hs0
    exact cut_nil _ k w hk rfl
  | row g cap h1 h2 h3 h4 h5 h6 h7 =>
    cases h1
    exact cut_row g l.length _ sy e _ k w hL hs h4 h5 hk rfl he

theorem Ints.stay {O : Nat → Prop} {w w' : World} {k : IntKind} {a : Option Addr} {b off : Nat} {zs : List Int} (h : Ints w k a b off zs) (hs : Stay O w w') (hb : 0 < zs.length → ¬ O b) : Ints w' k a b off zs :=
  ⟨h.addr, fun j hj => (World.cell?_of_block (a := ⟨b, off + j, none⟩) (hs.block b (h.lt (by omega)) (hb (by omega)))).trans (h.cell j hj)⟩

theorem below_of_drew {w w' : World} (h : Below w.drew.heap.size w.drew w') : Below w.heap.size w w' := ⟨h.os, h.tape, h.output, h.size, h.block⟩

/-- A row of names. -/
theorem own_names {w : World} {base : Nat} {e : TypeId} {v : Value} {n : Nat} {xs : List (List UInt8)} (h : w.ownsRow base e 1 v n (xs.map encStr)) :
    n = xs.length ∧ ∃ a cap b, v = .slice a xs.length cap ∧ (0 < xs.length → a = some ⟨b, 0, none⟩ ∧ base ≤ b ∧ b < w.heap.size) ∧ ∀ j (hj : j < xs.length), w.cell? ⟨b, j, none⟩ = some (.string ⟨xs[j].toArray⟩) := by
  have hlen := h.1
  simp at hlen
  have hl : n = xs.length := hlen.symm
  subst hl
  refine ⟨rfl, ?_⟩
  rcases h.2 with ⟨rfl, h0⟩ | ⟨g, cap, cur, rfl, hb, hg, _⟩
  · refine ⟨none, 0, 0, by rw [h0], fun hp => by omega, fun j hj => by omega⟩
  · refine ⟨some ⟨g, 0, none⟩, cap, g, rfl, fun _ => ⟨rfl, hb, (Array.getElem?_eq_some_iff.1 hg).1⟩, fun j hj => ?_⟩
    have := h.cells (g := g) rfl j (encStr xs[j]) (by simp [hj])
    rw [Addr.add_lit, Nat.zero_add] at this
    exact this

theorem own_fs {w : World} {base : Nat} {e : TypeId} {v : Value} {n m : Nat} {S : FS} (h : w.ownsRow base e 1 v m ((S.map (·.1)).map encStr)) (hn : S.length = n) :
    ∃ a cap b, v = .slice a n cap ∧ (0 < n → a = some ⟨b, 0, none⟩ ∧ base ≤ b ∧ b < w.heap.size) ∧ ∀ j (hj : j < S.length), w.cell? ⟨b, j, none⟩ = some (.string ⟨S[j].1.toArray⟩) := by
  obtain ⟨h0, a, cap, b, h1, h2, h3⟩ := own_names h
  have hl : (S.map (·.1)).length = n := by rw [List.length_map, hn]
  rw [hl] at h1 h2
  exact ⟨a, cap, b, h1, h2, fun j hj => by have := h3 j (by rw [List.length_map]; exact hj); rwa [List.getElem_map] at this⟩

section
variable {O : Nat → Prop} {w : World} {pd b : Nat} {V : List UInt8 → Value} {B : List UInt8 → Option Nat} {room fuse : Int} {down : Bool} {S : FS}

set_option maxRecDepth 100000 in
set_option maxHeartbeats 2000000 in
theorem crash_da (h : DA O w pd b V B room fuse down S) (ka : Option Addr) (kb koff kcap m n : Nat) (ks : List Int) (hm : ks.length = m) (hn : S.length = n) (hmx : m ≤ maxLen) (hI : Ints w .i64 ka kb koff ks) (hkb : 0 < m → ¬ O kb) (hks : ∀ k ∈ ks, -9223372036854775808 ≤ k ∧ k ≤ 9223372036854775807) :
    Calls Tryz.prog 26 #[.pointer (some ⟨pd, 0, none⟩), .slice ka m kcap] w fun e w' => e = .returned (.tuple #[]) ∧ (∃ V' B', DA O w' pd b V' B' room 0 false (crashL ks S)) ∧ Stay O w w' := by
  have hm63 : m ≤ 9223372036854775807 := by unfold maxLen at hmx; omega
  have hn20 : n ≤ 20 := by have := h.most; omega
  have C1 : Hid _ := fun (_ : Unit) => names_val h
  have HH : Hid (DA O w pd b V B room fuse down S) := h
  have HM : Hid _ := hm
  have HN : Hid _ := hn
  have HI : Hid _ := hI
  have HK : Hid (0 < m → ¬ O kb) := hkb
  have HKS : Hid _ := hks
  clear h hm hn hmx hI hkb hks
  go_enter Tryz.func26, Tryz.ntmps26
  go_wp2_with fail
  refine (C1.out ()).mono ?_
  rintro e w1 ⟨v, rfl, hv, -, b1⟩
  clear C1
  obtain ⟨na, nc, nb, rfl, hna, hnc⟩ := own_fs hv HN.out
  have HC : Hid _ := hnc
  have HA : Hid (0 < n → na = some ⟨nb, 0, none⟩ ∧ w.heap.size ≤ nb ∧ nb < w1.heap.size) := hna
  clear hv hna hnc
  go_wp2
  go_loopw [10] (fun c wr => ∃ (k : Nat) (V' : List UInt8 → Value) (B' : List UInt8 → Option Nat), k ≤ n ∧ c = .int .i64 k ∧ DA O wr pd b V' B' room fuse down (crashTo ks S k) ∧ Stay O w1 wr) (fun c _ => n - (intOf c).toNat)
  case atStart => exact ⟨0, V, B, by omega, rfl, by rw [crashTo_zero]; exact HH.out.below b1, Stay.refl _ _⟩
  case round =>
    obtain ⟨k, V', B', hk, rfl, hD, hS⟩ := hrel
    by_cases hlt : k < n
    · have hkS : k < S.length := by rw [HN.out]; exact hlt
      obtain ⟨rfl, hnb, hnb2⟩ := HA.out (by omega)
      have hnO : ¬ O nb := fun e => by have := HH.out.lt nb e; omega
      have hcell : wr.cell? ⟨nb, k, none⟩ = some (.string ⟨S[k].1.toArray⟩) := (World.cell?_of_block (a := ⟨nb, k, none⟩) (hS.block nb hnb2 hnO)).trans (HC.out k hkS)
      have hsp := crashTo_split ks S k hkS
      have hnx := crashTo_next ks S k hkS
      generalize crashL ks (S.take k) = A at *
      generalize S.drop (k + 1) = R at *
      generalize S[k] = p at *
      obtain ⟨nm, l, sy⟩ := p
      rw [hsp] at hD
      have hrise := hD.rise
      have hf : fget (A ++ (nm, l, sy) :: R) nm = some (l, sy) := fget_mid hrise
      obtain ⟨s, hs⟩ : ∃ s : ByteArray, (⟨nm.toArray⟩ : ByteArray) = s := ⟨_, rfl⟩
      have hsl : s.data.toList = nm := by rw [← hs]
      have hcell2 : wr.cell? ⟨nb, k, none⟩ = some (.string s) := by rw [← hs]; exact hcell
      have hnmO : 1 ≤ nm.length ∧ nm.length ≤ 30 := hD.name _ (fget_mem hf)
      have hsm : s.size ≤ maxLen := by rw [← hs]; show nm.toArray.size ≤ _; rw [List.size_toArray]; unfold maxLen; omega
      have hkey := WideMaps.keyOf_string_mk (P := Tryz.prog) Tryz.underlying9 hsm
      rw [hsl] at hkey
      obtain ⟨a, c, hV, hy⟩ := hD.at hf
      have hat : (dm V' (A ++ (nm, l, sy) :: R)).atKey (.string nm) (.held (.agg #[.slice none 0 0, .int .i64 0])) = .held (.agg #[.slice a l.length c, .int .i64 (sy : Int)]) := by rw [dm_at, hf, hV]; rfl
      have hdat := hD.data _ (fget_mem hf)
      have hl4 : l.length ≤ 400000 := hdat.1
      have hsl4 : sy ≤ l.length := hdat.2
      have c1 := hD.c1
      have hown := hD.own
      obtain ⟨ee, hee⟩ : ∃ ee, cutN (l, sy) (ks.getD k 0) = ee := ⟨_, rfl⟩
      have hee2 := cutN_le (f := (l, sy)) hsl4 (ks.getD k 0)
      rw [hee] at hee2
      have hlk : (Instr.lookup 92 (.map (some b)) (.string s) false).run Tryz.prog wr.drew = .ok (.agg #[.slice a l.length c, .int .i64 (sy : Int)]) wr.drew := by
        obtain ⟨v, ps, h1, h2⟩ := hown.drew.lookup lawK Tryz.underlying92 (zeroF _) (rv_mk _ _ _ _) hkey
        rw [hat] at h2
        rw [← rv_held h2]; exact h1
      have hkv : ∃ kv, ks.getD k 0 = kv ∧ -9223372036854775808 ≤ kv ∧ kv ≤ 9223372036854775807 := by
        refine ⟨_, rfl, ?_⟩
        by_cases hkm : k < ks.length
        · rw [List.getD_eq_getElem?_getD, List.getElem?_eq_getElem hkm]; exact HKS.out _ (List.getElem_mem hkm)
        · rw [List.getD_eq_getElem?_getD, List.getElem?_eq_none (by omega)]; simp
      obtain ⟨kv, hkv, hkv2⟩ := hkv
      rw [hkv] at hee
      have CC : Hid (∀ W, Calls Tryz.prog 64 #[.agg #[.slice a l.length c, .int .i64 (sy : Int)], .int .i64 kv] W fun x w' => x = .returned (.agg #[.slice a ee c, .int .i64 (ee : Int)]) ∧ Below W.heap.size W w') := fun W => cut_val hy sy kv W hl4 hsl4 hkv2 ee hee
      have HD : Hid (DA O wr pd b V' B' room fuse down (A ++ (nm, l, sy) :: R)) := hD
      have HMU : Hid (∀ w2, Below wr.drew.heap.size wr.drew w2 → ∃ W5, (Instr.mapUpdate 92 (.map (some b)) (.string s) (.agg #[.slice a ee c, .int .i64 (ee : Int)])).run Tryz.prog w2 = .ok () W5 ∧ W5.ownsMap Tryz.prog 9 rv b ((A ++ (nm, l, sy) :: R).length + 1) ((dm V' (A ++ (nm, l, sy) :: R)).put (.string nm) (.held (.agg #[.slice a ee c, .int .i64 (ee : Int)]))) ∧ w2.mapTurned W5 b) := fun w2 bw =>
        (hD.below (below_of_drew bw)).own.store lawK Tryz.underlying92 (by have := hD.most; unfold maxLen; omega) hkey (rv_mk a ee c (ee : Int))
      have CP : Hid (∀ w2, Below wr.drew.heap.size wr.drew w2 → w2.cell? ⟨pd, 1, none⟩ = some (.map (some b))) := fun w2 bw => (hD.below (below_of_drew bw)).c1
      have hlt5 : (l.take ee).length = ee := by rw [List.length_take]; have := hee2.2; simp at this; omega
      have hfp : fput (A ++ (nm, l, sy) :: R) nm (l.take ee, ee) = A ++ (nm, l.take ee, ee) :: R := fput_mid hrise
      have RS : Hid (∀ w2 W5, Below wr.drew.heap.size wr.drew w2 → W5.ownsMap Tryz.prog 9 rv b ((A ++ (nm, l, sy) :: R).length + 1) ((dm V' (A ++ (nm, l, sy) :: R)).put (.string nm) (.held (.agg #[.slice a ee c, .int .i64 (ee : Int)]))) → w2.mapTurned W5 b →
          DA O W5 pd b (upd V' nm (.agg #[.slice a ee c, .int .i64 (ee : Int)])) (fun m => if m = nm then B' nm else B' m) room fuse down (A ++ (nm, l.take ee, ee) :: R) ∧ Stay O w1 W5) := fun w2 W5 bw ho5 ht5 => by
        have bw' := below_of_drew bw
        have hD2 := hD.below bw'
        have hmost := hD.most
        have hused := hD.used
        have hput := hD.put (w1 := w2) (w2 := W5) (O1 := O) (n := nm) (sl := .slice a ee c) (l := l.take ee) (s := ee) (g := B' nm) (fun _ e => e) hD2.lt ((hy.stay bw'.size (fun k hk => bw'.block k (by rw [hk] at hy; exact hy.lt.1)) (fun _ e => e)).cut ee (by have := hee2.2; simpa using this))
          (Stay.of_below bw') (hD.fresh (fun k hk => .inl ⟨hk, by rw [hf]; rfl⟩)) ho5 ht5 hnmO ⟨by have := hee2.2; simp at this; omega, by omega⟩ (by rw [hfp]; simpa using hmost)
          (by
            rw [hfp]
            rw [tot_append, tot_cons] at hused ⊢
            simp only [hlt5] at hused ⊢
            have := hee2.2
            simp only at this hused
            omega)
        rw [hfp] at hput
        exact ⟨hput, hS.then_same ((Stay.of_below bw').then_same (Stay.of_grown ht5.grown (fun k e => by cases e; exact hD.oB)))⟩
      have hHF : Hid (fget (A ++ (nm, l.take ee, ee) :: R) nm = some (l.take ee, ee)) := by
        have := rise_fput hrise nm (l.take ee, ee)
        rw [hfp] at this
        exact fget_mid this
      have hHR : Hid (Rise (A ++ (nm, l.take ee, ee) :: R)) := by
        have := rise_fput hrise nm (l.take ee, ee)
        rw [hfp] at this
        exact this
      have HNX : Hid _ := hnx
      have HRI : Hid _ := hrise
      have HY : Hid _ := hy
      have HFF : Hid _ := hf
      have HS : Hid (Stay O w1 wr) := hS
      have HKV : Hid _ := hkv
      have HEE : Hid _ := hee
      clear hD hnx hrise hy hf hS hat hV hdat hsp hcell hs HA HC HH HKS hsl hee hlt5 hfp
      by_cases hkm : k < m
      · have hkm2 : k < ks.length := by rw [HM.out]; exact hkm
        obtain rfl := HI.out.addr (by omega)
        have hkc : wr.cell? ⟨kb, koff + k, none⟩ = some (.int .i64 kv) := by
          have h1 := HI.out.cell k hkm2
          have h2 : ks[k] = kv := by rw [← HKV.out, List.getD_eq_getElem?_getD, List.getElem?_eq_getElem hkm2]; rfl
          rw [h2] at h1
          have hlt2 := HI.out.lt (by omega)
          exact (World.cell?_of_block (a := ⟨kb, koff + k, none⟩) ((HS.out.block kb (Nat.lt_of_lt_of_le hlt2 b1.size) (HK.out (by omega))).trans (b1.block kb hlt2))).trans h1
        clear hnb hnb2 hnO hkS
        go_wp2
        go_region_with (go_at_call 64; refine (CC.out _).mono ?_; rintro x w2 ⟨rfl, bw⟩; obtain ⟨W5, hmu, ho5, ht5⟩ := HMU.out w2 bw; have c12 := CP.out w2 bw)
        all_goals
          obtain ⟨hD5, hS5⟩ := RS.out w2 W5 bw ho5 ht5
          have c15 := hD5.c1
          have hown5 := hD5.own
          have hat5 : (dm (upd V' nm (.agg #[.slice a ee c, .int .i64 (ee : Int)])) (A ++ (nm, l.take ee, ee) :: R)).atKey (.string nm) (.held (.agg #[.slice none 0 0, .int .i64 0])) = .held (.agg #[.slice a ee c, .int .i64 (ee : Int)]) := by rw [dm_at, hHF.out, upd_same]; rfl
          have hfl := fieldF a ee c (ee : Int) W5
          have HD5 : Hid (DA O W5 pd b (upd V' nm (.agg #[.slice a ee c, .int .i64 (ee : Int)])) (fun m => if m = nm then B' nm else B' m) room fuse down (A ++ (nm, l.take ee, ee) :: R)) := hD5
          have HS5 : Hid (Stay O w1 W5) := hS5
          clear hD5 hS5 hmu ho5 ht5 c12 bw HMU CP CC hlk hown
          rcases Nat.eq_zero_or_pos ee with he0 | he0
          · subst he0
            have hfl0 := fieldF a 0 c 0 W5
            go_wp2_with (first
              | (at_lookup; refine wpList_look _ rfl _ _ 92 rfl 9 115 lawK Tryz.underlying92 (zeroF _) (rv_mk _ _ _ _) b _ _ rfl hown5 _ _ rfl hkey _ hat5 ?_)
              | (at_delete; refine wpList_delete_own _ rfl _ _ 92 9 rfl 115 lawK Tryz.underlying92 rv b _ _ rfl hown5 _ _ rfl hkey ?_; intro W6 ho6 ht6))
            go_roundw
            case rel =>
              have hD6 := HD5.out.del ho6 ht6
              rw [fdel_mid hHR.out] at hD6
              have e6 := HNX.out
              simp only [HKV.out, HEE.out, if_true, List.nil_append] at e6
              refine ⟨k + 1, upd V' nm (.agg #[.slice a 0 c, .int .i64 ((0 : Nat) : Int)]), fun m => if m = nm then B' nm else B' m, by omega, by go_num, ?_, HS5.out.then_same (Stay.of_grown ht6.grown (fun k e => by cases e; exact HD5.out.oB))⟩
              rw [e6]; exact hD6
            case measure => simp [intOf]; omega
          · have he1 : ¬ ee = 0 := by omega
            go_wp2_with (at_lookup; refine wpList_look _ rfl _ _ 92 rfl 9 115 lawK Tryz.underlying92 (zeroF _) (rv_mk _ _ _ _) b _ _ rfl hown5 _ _ rfl hkey _ hat5 ?_)
            go_roundw
            case rel =>
              have e6 := HNX.out
              simp only [HKV.out, HEE.out, he1, if_false] at e6
              refine ⟨k + 1, upd V' nm (.agg #[.slice a ee c, .int .i64 (ee : Int)]), fun m => if m = nm then B' nm else B' m, by omega, by go_num, ?_, HS5.out⟩
              rw [e6]; exact HD5.out
            case measure => simp [intOf]; omega
      · have hkz : kv = 0 := by rw [← HKV.out, List.getD_eq_getElem?_getD, List.getElem?_eq_none (by rw [HM.out]; omega)]; rfl
        subst hkz
        clear hnb hnb2 hnO hkS
        go_wp2
        go_region_with (go_at_call 64; refine (CC.out _).mono ?_; rintro x w2 ⟨rfl, bw⟩; obtain ⟨W5, hmu, ho5, ht5⟩ := HMU.out w2 bw; have c12 := CP.out w2 bw)
        all_goals
          obtain ⟨hD5, hS5⟩ := RS.out w2 W5 bw ho5 ht5
          have c15 := hD5.c1
          have hown5 := hD5.own
          have hat5 : (dm (upd V' nm (.agg #[.slice a ee c, .int .i64 (ee : Int)])) (A ++ (nm, l.take ee, ee) :: R)).atKey (.string nm) (.held (.agg #[.slice none 0 0, .int .i64 0])) = .held (.agg #[.slice a ee c, .int .i64 (ee : Int)]) := by rw [dm_at, hHF.out, upd_same]; rfl
          have hfl := fieldF a ee c (ee : Int) W5
          have HD5 : Hid (DA O W5 pd b (upd V' nm (.agg #[.slice a ee c, .int .i64 (ee : Int)])) (fun m => if m = nm then B' nm else B' m) room fuse down (A ++ (nm, l.take ee, ee) :: R)) := hD5
          have HS5 : Hid (Stay O w1 W5) := hS5
          clear hD5 hS5 hmu ho5 ht5 c12 bw HMU CP CC hlk hown
          rcases Nat.eq_zero_or_pos ee with he0 | he0
          · subst he0
            have hfl0 := fieldF a 0 c 0 W5
            go_wp2_with (first
              | (at_lookup; refine wpList_look _ rfl _ _ 92 rfl 9 115 lawK Tryz.underlying92 (zeroF _) (rv_mk _ _ _ _) b _ _ rfl hown5 _ _ rfl hkey _ hat5 ?_)
              | (at_delete; refine wpList_delete_own _ rfl _ _ 92 9 rfl 115 lawK Tryz.underlying92 rv b _ _ rfl hown5 _ _ rfl hkey ?_; intro W6 ho6 ht6))
            go_roundw
            case rel =>
              have hD6 := HD5.out.del ho6 ht6
              rw [fdel_mid hHR.out] at hD6
              have e6 := HNX.out
              simp only [HKV.out, HEE.out, if_true, List.nil_append] at e6
              refine ⟨k + 1, upd V' nm (.agg #[.slice a 0 c, .int .i64 ((0 : Nat) : Int)]), fun m => if m = nm then B' nm else B' m, by omega, by go_num, ?_, HS5.out.then_same (Stay.of_grown ht6.grown (fun k e => by cases e; exact HD5.out.oB))⟩
              rw [e6]; exact hD6
            case measure => simp [intOf]; omega
          · have he1 : ¬ ee = 0 := by omega
            go_wp2_with (at_lookup; refine wpList_look _ rfl _ _ 92 rfl 9 115 lawK Tryz.underlying92 (zeroF _) (rv_mk _ _ _ _) b _ _ rfl hown5 _ _ rfl hkey _ hat5 ?_)
            go_roundw
            case rel =>
              have e6 := HNX.out
              simp only [HKV.out, HEE.out, he1, if_false] at e6
              refine ⟨k + 1, upd V' nm (.agg #[.slice a ee c, .int .i64 (ee : Int)]), fun m => if m = nm then B' nm else B' m, by omega, by go_num, ?_, HS5.out⟩
              rw [e6]; exact HD5.out
            case measure => simp [intOf]; omega
    · obtain rfl : k = n := by omega
      have e6 : crashTo ks S k = crashL ks S := by rw [← HN.out, crashTo_end]
      rw [e6] at hD
      have f2 := hD.f2
      have f3 := hD.f3
      have c2 := hD.c2
      have c3 := hD.c3
      have HD2 : Hid _ := (hD.setFuse 0 (by omega)).setDown false
      have HS2 : Hid _ := (Stay.of_below b1).then_same (hS.then_same ((Stay.setCell (O := O) wr ⟨pd, 2, none⟩ (.int .i64 0) hD.oP).then_same (Stay.setCell (O := O) _ ⟨pd, 3, none⟩ (.bool false) hD.oP)))
      clear hD hS e6 HA HC HH
      go_wp2
      go_end0
      exact ⟨rfl, ⟨V', B', HD2.out⟩, HS2.out⟩

end

end Go.Proofs.YtfmhmokbbkliaaaGreat

/- One disk, and two, through a walk. -/
namespace Go.Proofs.YtfmhmokbbkliaaaGreat
open Go.RowKit

theorem crash_val {O : Nat → Prop} {w : World} {pd : Nat} {ds : DS} (h : DAt O w pd ds) (ka : Option Addr) (kb koff kcap m : Nat) (ks : List Int) (hm : ks.length = m) (hmx : m ≤ maxLen) (hI : Ints w .i64 ka kb koff ks) (hkb : 0 < m → ¬ O kb) (hks : ∀ k ∈ ks, -9223372036854775808 ≤ k ∧ k ≤ 9223372036854775807) :
    Calls Tryz.prog 26 #[.pointer (some ⟨pd, 0, none⟩), .slice ka m kcap] w fun e w' => e = .returned (.tuple #[]) ∧ DAt O w' pd ⟨ds.room, 0, false, crashL ks ds.S⟩ ∧ Stay O w w' := by
  obtain ⟨b, V, B, h⟩ := h
  exact (crash_da h ka kb koff kcap m _ ks hm rfl hmx hI hkb hks).mono fun e w' ⟨h1, ⟨V', B', h2⟩, h3⟩ => ⟨h1, ⟨b, V', B', h2⟩, h3⟩

theorem DAt.lt {O : Nat → Prop} {w : World} {pd : Nat} {ds : DS} (h : DAt O w pd ds) : ∀ k, O k → k < w.heap.size := by
  obtain ⟨b, V, B, h⟩ := h
  exact DiskAt.lt h
theorem DAt.stay {O O2 : Nat → Prop} {w w' : World} {pd : Nat} {ds : DS} (h : DAt O w pd ds) (hs : Stay O2 w w') (hd : ∀ k, O k → ¬ O2 k) : DAt O w' pd ds := by
  obtain ⟨b, V, B, h⟩ := h
  exact ⟨b, V, B, DiskAt.stay h hs hd⟩
theorem DAt.below {O : Nat → Prop} {w w' : World} {pd : Nat} {ds : DS} (h : DAt O w pd ds) (hs : Below w.heap.size w w') : DAt O w' pd ds := by
  obtain ⟨b, V, B, h⟩ := h
  exact ⟨b, V, B, DiskAt.below h hs⟩
theorem DAt.rise {O : Nat → Prop} {w : World} {pd : Nat} {ds : DS} (h : DAt O w pd ds) : Rise ds.S := by
  obtain ⟨b, V, B, h⟩ := h
  exact DiskAt.rise h

/-- One disk, all that it has made since w0. -/
structure One (w0 w : World) (pd : Nat) (ds : DS) : Prop where
  ex : ∃ O, DAt O w pd ds ∧ (∀ k, O k → w0.heap.size ≤ k) ∧ Below w0.heap.size w0 w

theorem one_grow {w0 w w' : World} {pd : Nat} {ds : DS} {O : Nat → Prop} (hl : ∀ k, O k → w0.heap.size ≤ k) (hb : Below w0.heap.size w0 w) (h : DAt (Grow O w w') w' pd ds) (hs : Stay O w w') : One w0 w' pd ds :=
  ⟨⟨_, h, fun k hk => hk.elim (hl k) (fun e => Nat.le_trans hb.size e.1), hb.trans (hs.below hb.size hl)⟩⟩
theorem one_same {w0 w w' : World} {pd : Nat} {ds : DS} {O : Nat → Prop} (hl : ∀ k, O k → w0.heap.size ≤ k) (hb : Below w0.heap.size w0 w) (h : DAt O w' pd ds) (hs : Stay O w w') : One w0 w' pd ds :=
  ⟨⟨_, h, hl, hb.trans (hs.below hb.size hl)⟩⟩
theorem One.below {w0 w w' : World} {pd : Nat} {ds : DS} (h : One w0 w pd ds) (hs : Below w.heap.size w w') : One w0 w' pd ds := by
  obtain ⟨⟨O, h1, h2, h3⟩⟩ := h
  exact ⟨⟨O, h1.below hs, h2, bel_tr h3 hs⟩⟩
theorem One.bel {w0 w : World} {pd : Nat} {ds : DS} (h : One w0 w pd ds) : Below w0.heap.size w0 w := by
  obtain ⟨⟨O, h1, h2, h3⟩⟩ := h
  exact h3

section
variable {w0 w : World} {pd : Nat} {ds ds' : DS}

theorem one_new (hb : Below w0.heap.size w0 w) (room r : Int) (hr : -9223372036854775808 ≤ room ∧ room < 9223372036854775808) (hm : max room 0 = r) :
    Calls Tryz.prog 19 #[.int .i64 room] w fun e w' => ∃ pd, e = .returned (.pointer (some ⟨pd, 0, none⟩)) ∧ One w0 w' pd ⟨r, 0, false, []⟩ :=
  (new_val room r w hr hm).mono fun _ _ ⟨pd, h1, h2, h3⟩ => ⟨pd, h1, ⟨⟨_, h2, fun _ hk => Nat.le_trans hb.size hk.1, bel_tr hb h3⟩⟩⟩

theorem one_append (h : One w0 w pd ds) (s d : ByteArray) (hs : s.size ≤ maxLen) (hd : d.size ≤ 140737488355328) (q : Int) (hq : begE ds (refA ds s.data.toList d.data.toList) = q)
    (hds : doD ds (refA ds s.data.toList d.data.toList) (fapp s.data.toList d.data.toList) = ds') :
    Calls Tryz.prog 33 #[.pointer (some ⟨pd, 0, none⟩), .string s, .string d] w fun e w' => e = .returned (.int .i64 q) ∧ One w0 w' pd ds' := by
  obtain ⟨⟨O, h1, h2, h3⟩⟩ := h
  exact (append_val h1 s d hs hd q hq hds).mono fun e w' ⟨e1, e2, e3⟩ => ⟨e1, one_grow h2 h3 e2 e3⟩

theorem one_sync (h : One w0 w pd ds) (s : ByteArray) (hs : s.size ≤ maxLen) (q : Int) (hq : begE ds (refM ds.S s.data.toList) = q) (hds : doD ds (refM ds.S s.data.toList) (fsyn s.data.toList) = ds') :
    Calls Tryz.prog 157 #[.pointer (some ⟨pd, 0, none⟩), .string s] w fun e w' => e = .returned (.int .i64 q) ∧ One w0 w' pd ds' := by
  obtain ⟨⟨O, h1, h2, h3⟩⟩ := h
  exact (sync_val h1 s hs q hq hds).mono fun e w' ⟨e1, e2, e3⟩ => ⟨e1, one_grow h2 h3 e2 e3⟩

theorem one_delete (h : One w0 w pd ds) (s : ByteArray) (hs : s.size ≤ maxLen) (q : Int) (hq : begE ds (refM ds.S s.data.toList) = q) (hds : doD ds (refM ds.S s.data.toList) (fun S => fdel S s.data.toList) = ds') :
    Calls Tryz.prog 156 #[.pointer (some ⟨pd, 0, none⟩), .string s] w fun e w' => e = .returned (.int .i64 q) ∧ One w0 w' pd ds' := by
  obtain ⟨⟨O, h1, h2, h3⟩⟩ := h
  exact (delete_val h1 s hs q hq hds).mono fun e w' ⟨e1, e2, e3⟩ => ⟨e1, one_grow h2 h3 e2 e3⟩

theorem one_rename (h : One w0 w pd ds) (s d : ByteArray) (hs : s.size ≤ maxLen) (hd : d.size ≤ maxLen) (q : Int) (hq : begE ds (refR ds.S s.data.toList d.data.toList) = q) (hds : doD ds (refR ds.S s.data.toList d.data.toList) (fren s.data.toList d.data.toList) = ds') :
    Calls Tryz.prog 138 #[.pointer (some ⟨pd, 0, none⟩), .string s, .string d] w fun e w' => e = .returned (.int .i64 q) ∧ One w0 w' pd ds' := by
  obtain ⟨⟨O, h1, h2, h3⟩⟩ := h
  exact (rename_val h1 s d hs hd q hq hds).mono fun e w' ⟨e1, e2, e3⟩ => ⟨e1, one_grow h2 h3 e2 e3⟩

theorem one_fuse (h : One w0 w pd ds) (n f : Int) (hn : -9223372036854775808 ≤ n ∧ n < 9223372036854775808) (hf : max n 0 = f) :
    Calls Tryz.prog 24 #[.pointer (some ⟨pd, 0, none⟩), .int .i64 n] w fun e w' => e = .returned (.tuple #[]) ∧ One w0 w' pd { ds with fuse := f } := by
  obtain ⟨⟨O, h1, h2, h3⟩⟩ := h
  exact (fuse_val h1 n f hn hf).mono fun e w' ⟨e1, e2, e3⟩ => ⟨e1, one_same h2 h3 e2 e3⟩

theorem one_crash (h : One w0 w pd ds) (ka : Option Addr) (kb koff kcap m : Nat) (ks : List Int) (hm : ks.length = m) (hmx : m ≤ maxLen) (hI : Ints w0 .i64 ka kb koff ks) (hks : ∀ k ∈ ks, -9223372036854775808 ≤ k ∧ k ≤ 9223372036854775807) :
    Calls Tryz.prog 26 #[.pointer (some ⟨pd, 0, none⟩), .slice ka m kcap] w fun e w' => e = .returned (.tuple #[]) ∧ One w0 w' pd ⟨ds.room, 0, false, crashL ks ds.S⟩ := by
  obtain ⟨⟨O, h1, h2, h3⟩⟩ := h
  refine (crash_val h1 ka kb koff kcap m ks hm hmx (hI.below h3) (fun hp e => ?_) hks).mono fun e w' ⟨e1, e2, e3⟩ => ⟨e1, one_same h2 h3 e2 e3⟩
  have := hI.lt (by omega)
  have := h2 kb e
  omega

theorem one_read (h : One w0 w pd ds) (s : ByteArray) (hs : s.size ≤ maxLen) (t : ByteArray) (q : Int) (ht : rdT ds s.data.toList = t) (hq : rdE ds s.data.toList = q) :
    Calls Tryz.prog 77 #[.pointer (some ⟨pd, 0, none⟩), .string s] w fun e w' => e = .returned (.tuple #[.string t, .int .i64 q]) ∧ One w0 w' pd ds := by
  obtain ⟨⟨O, h1, h2, h3⟩⟩ := h
  exact (read_val h1 s hs t q ht hq).mono fun e w' ⟨e1, e2⟩ => ⟨e1, ⟨⟨O, h1.below e2, h2, bel_tr h3 e2⟩⟩⟩

theorem one_used (h : One w0 w pd ds) (n : Nat) (hn : usedN ds = n) :
    Calls Tryz.prog 75 #[.pointer (some ⟨pd, 0, none⟩)] w fun e w' => e = .returned (.int .i64 n) ∧ One w0 w' pd ds := by
  obtain ⟨⟨O, h1, h2, h3⟩⟩ := h
  exact (used_val h1 n hn).mono fun e w' ⟨e1, e2⟩ => ⟨e1, ⟨⟨O, h1.below e2, h2, bel_tr h3 e2⟩⟩⟩

theorem one_down (h : One w0 w pd ds) (v : Bool) (hv : ds.down = v) :
    Calls Tryz.prog 36 #[.pointer (some ⟨pd, 0, none⟩)] w fun e w' => e = .returned (.bool v) ∧ w' = w := by
  obtain ⟨⟨O, h1, h2, h3⟩⟩ := h
  exact down_val h1 v hv

/-- Only how many there are. -/
theorem one_list (h : One w0 w pd ds) (n : Nat) (hn : (listN ds).length = n) :
    Calls Tryz.prog 73 #[.pointer (some ⟨pd, 0, none⟩)] w fun e w' => ∃ a c, e = .returned (.slice a n c) ∧ One w0 w' pd ds := by
  obtain ⟨⟨O, h1, h2, h3⟩⟩ := h
  refine (list_val h1).mono fun e w' ⟨v, e1, e2, _, e3⟩ => ?_
  obtain ⟨_, a, c, b, hv, _⟩ := own_names e2
  exact ⟨a, c, by rw [e1, hv, hn], ⟨⟨O, h1.below e3, h2, bel_tr h3 e3⟩⟩⟩

end

/-- Two disks that have nothing in common. -/
def Two (w0 w : World) (p1 : Nat) (d1 : DS) (p2 : Nat) (d2 : DS) : Prop := ∃ O1 O2, DAt O1 w p1 d1 ∧ DAt O2 w p2 d2 ∧ (∀ k, O1 k → ¬ O2 k) ∧ (∀ k, O1 k → w0.heap.size ≤ k) ∧ (∀ k, O2 k → w0.heap.size ≤ k) ∧ Below w0.heap.size w0 w

section
variable {w0 w : World} {p1 p2 : Nat} {d1 d1' d2 : DS}

theorem two_new (h : One w0 w p1 d1) (room r : Int) (hr : -9223372036854775808 ≤ room ∧ room < 9223372036854775808) (hm : max room 0 = r) :
    Calls Tryz.prog 19 #[.int .i64 room] w fun e w' => ∃ pd, e = .returned (.pointer (some ⟨pd, 0, none⟩)) ∧ Two w0 w' p1 d1 pd ⟨r, 0, false, []⟩ := by
  obtain ⟨⟨O, h1, h2, h3⟩⟩ := h
  exact (new_val room r w hr hm).mono fun e w' ⟨pd, e1, e2, e3⟩ => ⟨pd, e1, O, _, h1.below e3, e2, fun k hk e => by have := h1.lt k hk; omega, h2, fun k hk => Nat.le_trans h3.size hk.1, bel_tr h3 e3⟩

theorem two_append (h : Two w0 w p1 d1 p2 d2) (s d : ByteArray) (hs : s.size ≤ maxLen) (hd : d.size ≤ 140737488355328) (q : Int) (hq : begE d1 (refA d1 s.data.toList d.data.toList) = q)
    (hds : doD d1 (refA d1 s.data.toList d.data.toList) (fapp s.data.toList d.data.toList) = d1') :
    Calls Tryz.prog 33 #[.pointer (some ⟨p1, 0, none⟩), .string s, .string d] w fun e w' => e = .returned (.int .i64 q) ∧ Two w0 w' p1 d1' p2 d2 := by
  obtain ⟨O1, O2, h1, h2, hx, l1, l2, hb⟩ := h
  exact (append_val h1 s d hs hd q hq hds).mono fun e w' ⟨e1, e2, e3⟩ => ⟨e1, _, O2, e2, h2.stay e3 (fun k h2k h1k => hx k h1k h2k), fun k hk e => hk.elim (fun hk => hx k hk e) (fun hk => by have := h2.lt k e; omega), fun k hk => hk.elim (l1 k) (fun hk => Nat.le_trans hb.size hk.1), l2, hb.trans (e3.below hb.size l1)⟩

theorem two_sync (h : Two w0 w p1 d1 p2 d2) (s : ByteArray) (hs : s.size ≤ maxLen) (q : Int) (hq : begE d1 (refM d1.S s.data.toList) = q) (hds : doD d1 (refM d1.S s.data.toList) (fsyn s.data.toList) = d1') :
    Calls Tryz.prog 157 #[.pointer (some ⟨p1, 0, none⟩), .string s] w fun e w' => e = .returned (.int .i64 q) ∧ Two w0 w' p1 d1' p2 d2 := by
  obtain ⟨O1, O2, h1, h2, hx, l1, l2, hb⟩ := h
  exact (sync_val h1 s hs q hq hds).mono fun e w' ⟨e1, e2, e3⟩ => ⟨e1, _, O2, e2, h2.stay e3 (fun k h2k h1k => hx k h1k h2k), fun k hk e => hk.elim (fun hk => hx k hk e) (fun hk => by have := h2.lt k e; omega), fun k hk => hk.elim (l1 k) (fun hk => Nat.le_trans hb.size hk.1), l2, hb.trans (e3.below hb.size l1)⟩

/-- A crash; what is kept lies in a new block. -/
theorem two_crash (h : Two w0 w p1 d1 p2 d2) (t : TypeId) (z : Int) (hz : -9223372036854775808 ≤ z ∧ z ≤ 9223372036854775807) :
    Calls Tryz.prog 26 #[.pointer (some ⟨p1, 0, none⟩), .slice (some ⟨w.heap.size, 0, none⟩) 1 1] (w.alloc (.cells #[.int .i64 z] t)) fun e w' => e = .returned (.tuple #[]) ∧ Two w0 w' p1 ⟨d1.room, 0, false, crashL [z] d1.S⟩ p2 d2 := by
  obtain ⟨O1, O2, h1, h2, hx, l1, l2, hb⟩ := h
  have b1 : Below w.heap.size w (w.alloc (.cells #[.int .i64 z] t)) := (Below.refl _ w).alloc (Nat.le_refl _) _
  refine (crash_val (h1.below b1) _ w.heap.size 0 1 1 [z] rfl (by unfold maxLen; omega) ⟨fun _ => rfl, fun j hj => ?_⟩ (fun _ e => by have := h1.lt _ e; omega) (fun k hk => by rw [List.mem_singleton.1 hk]; exact hz)).mono fun e w' ⟨e1, e2, e3⟩ => ⟨e1, O1, O2, e2, (h2.below b1).stay e3 (fun k h2k h1k => hx k h1k h2k), hx, l1, l2, ?_⟩
  · have hj0 : j = 0 := by simpa using hj
    subst hj0
    exact World.cell?_alloc_new w _ t 0
  · have b2 := bel_tr hb b1
    exact b2.trans (e3.below b2.size l1)

theorem two_read (h : Two w0 w p1 d1 p2 d2) (s : ByteArray) (hs : s.size ≤ maxLen) (t : ByteArray) (q : Int) (ht : rdT d1 s.data.toList = t) (hq : rdE d1 s.data.toList = q) :
    Calls Tryz.prog 77 #[.pointer (some ⟨p1, 0, none⟩), .string s] w fun e w' => e = .returned (.tuple #[.string t, .int .i64 q]) ∧ One w0 w' p2 d2 := by
  obtain ⟨O1, O2, h1, h2, hx, l1, l2, hb⟩ := h
  exact (read_val h1 s hs t q ht hq).mono fun e w' ⟨e1, e2⟩ => ⟨e1, ⟨⟨O2, h2.below e2, l2, bel_tr hb e2⟩⟩⟩

end

/-! ### without a fuse -/
theorem begE_plain (room : Int) (S : FS) (e : Int) : begE ⟨room, 0, false, S⟩ e = e := by unfold begE; simp
theorem doD_plain (room : Int) (S : FS) (f : FS → FS) : doD ⟨room, 0, false, S⟩ 0 f = ⟨room, 0, false, f S⟩ := by unfold doD begE begD; simp
theorem doD_no (room : Int) (S : FS) (f : FS → FS) {e : Int} (he : e ≠ 0) : doD ⟨room, 0, false, S⟩ e f = ⟨room, 0, false, S⟩ := by unfold doD begE begD; simp [he]

end Go.Proofs.YtfmhmokbbkliaaaGreat

/- A disk without a fuse: what each call does, if it may. -/
namespace Go.Proofs.YtfmhmokbbkliaaaGreat
open Go.RowKit

theorem refA_ok {room f : Int} {dn : Bool} {S : FS} {n d : List UInt8} (h1 : nameOk n = true) (h2 : flen (fget S n) + d.length ≤ 400000) (h3 : (fget S n).isSome = true ∨ S.length < 20) (h4 : ((tot S + d.length : Nat) : Int) ≤ room) : refA ⟨room, f, dn, S⟩ n d = 0 := by
  unfold refA
  rw [if_pos h1]
  have e1 : ¬ 400000 < flen (fget S n) + d.length := by omega
  have e2 : ¬ ((fget S n).isNone = true ∧ 20 ≤ S.length) := fun ⟨e, e'⟩ => by
    rcases h3 with h | h
    · cases hf : fget S n with
      | none => rw [hf] at h; cases h
      | some _ => rw [hf] at e; cases e
    · omega
  have e3 : ¬ room < ((tot S + d.length : Nat) : Int) := by omega
  show (if 400000 < flen (fget S n) + d.length then _ else if (fget S n).isNone = true ∧ 20 ≤ S.length then _ else if room < ((tot S + d.length : Nat) : Int) then _ else _) = (0 : Int)
  rw [if_neg e1, if_neg e2, if_neg e3]

theorem refA_full {room f : Int} {dn : Bool} {S : FS} {n d : List UInt8} (h1 : nameOk n = true) (h2 : flen (fget S n) + d.length ≤ 400000) (h3 : (fget S n).isSome = true ∨ S.length < 20) (h4 : room < ((tot S + d.length : Nat) : Int)) : refA ⟨room, f, dn, S⟩ n d = 8 := by
  unfold refA
  rw [if_pos h1]
  have e1 : ¬ 400000 < flen (fget S n) + d.length := by omega
  have e2 : ¬ ((fget S n).isNone = true ∧ 20 ≤ S.length) := fun ⟨e, e'⟩ => by
    rcases h3 with h | h
    · cases hf : fget S n with
      | none => rw [hf] at h; cases h
      | some _ => rw [hf] at e; cases e
    · omega
  show (if 400000 < flen (fget S n) + d.length then _ else if (fget S n).isNone = true ∧ 20 ≤ S.length then _ else if room < ((tot S + d.length : Nat) : Int) then _ else _) = (8 : Int)
  rw [if_neg e1, if_neg e2, if_pos h4]

theorem refM_some {S : FS} {n : List UInt8} {f : List UInt8 × Nat} (h : fget S n = some f) : refM S n = 0 := by unfold refM; rw [h]; rfl
theorem refM_none {S : FS} {n : List UInt8} (h : fget S n = none) : refM S n = 5 := by unfold refM; rw [h]; rfl

section
variable {w0 w : World} {pd : Nat} {room : Int} {S S' : FS}

theorem ok_append (h : One w0 w pd ⟨room, 0, false, S⟩) (s d : ByteArray) (hs : s.size ≤ maxLen) (hd : d.size ≤ 140737488355328) (hr : refA ⟨room, 0, false, S⟩ s.data.toList d.data.toList = 0) (hS : fapp s.data.toList d.data.toList S = S') :
    Calls Tryz.prog 33 #[.pointer (some ⟨pd, 0, none⟩), .string s, .string d] w fun e w' => e = .returned (.int .i64 0) ∧ One w0 w' pd ⟨room, 0, false, S'⟩ :=
  one_append h s d hs hd 0 (by rw [begE_plain]; exact hr) (by rw [hr, doD_plain, hS])

theorem no_append (h : One w0 w pd ⟨room, 0, false, S⟩) (s d : ByteArray) (hs : s.size ≤ maxLen) (hd : d.size ≤ 140737488355328) (q : Int) (hr : refA ⟨room, 0, false, S⟩ s.data.toList d.data.toList = q) (hq : q ≠ 0) :
    Calls Tryz.prog 33 #[.pointer (some ⟨pd, 0, none⟩), .string s, .string d] w fun e w' => e = .returned (.int .i64 q) ∧ One w0 w' pd ⟨room, 0, false, S⟩ :=
  one_append h s d hs hd q (by rw [begE_plain]; exact hr) (by rw [hr, doD_no _ _ _ hq])

theorem ok_sync (h : One w0 w pd ⟨room, 0, false, S⟩) (s : ByteArray) (hs : s.size ≤ maxLen) (f : List UInt8 × Nat) (hf : fget S s.data.toList = some f) (hS : fsyn s.data.toList S = S') :
    Calls Tryz.prog 157 #[.pointer (some ⟨pd, 0, none⟩), .string s] w fun e w' => e = .returned (.int .i64 0) ∧ One w0 w' pd ⟨room, 0, false, S'⟩ :=
  one_sync h s hs 0 (by rw [begE_plain]; exact refM_some hf) (by rw [show refM _ _ = 0 from refM_some hf, doD_plain, hS])

theorem ok_delete (h : One w0 w pd ⟨room, 0, false, S⟩) (s : ByteArray) (hs : s.size ≤ maxLen) (f : List UInt8 × Nat) (hf : fget S s.data.toList = some f) (hS : fdel S s.data.toList = S') :
    Calls Tryz.prog 156 #[.pointer (some ⟨pd, 0, none⟩), .string s] w fun e w' => e = .returned (.int .i64 0) ∧ One w0 w' pd ⟨room, 0, false, S'⟩ :=
  one_delete h s hs 0 (by rw [begE_plain]; exact refM_some hf) (by rw [show refM _ _ = 0 from refM_some hf, doD_plain, hS])

theorem ok_rename (h : One w0 w pd ⟨room, 0, false, S⟩) (s d : ByteArray) (hs : s.size ≤ maxLen) (hd : d.size ≤ maxLen) (f : List UInt8 × Nat) (hn : nameOk d.data.toList = true) (hf : fget S s.data.toList = some f) (hS : fren s.data.toList d.data.toList S = S') :
    Calls Tryz.prog 138 #[.pointer (some ⟨pd, 0, none⟩), .string s, .string d] w fun e w' => e = .returned (.int .i64 0) ∧ One w0 w' pd ⟨room, 0, false, S'⟩ := by
  have hr : refR S s.data.toList d.data.toList = 0 := by unfold refR; rw [if_pos hn]; exact refM_some hf
  exact one_rename h s d hs hd 0 (by rw [begE_plain]; exact hr) (by rw [show refR _ _ _ = 0 from hr, doD_plain, hS])

theorem ok_crash (h : One w0 w pd ⟨room, 0, false, S⟩) (ka : Option Addr) (kb koff kcap m : Nat) (ks : List Int) (hm : ks.length = m) (hmx : m ≤ maxLen) (hI : Ints w0 .i64 ka kb koff ks) (hks : ∀ k ∈ ks, -9223372036854775808 ≤ k ∧ k ≤ 9223372036854775807) (hS : crashL ks S = S') :
    Calls Tryz.prog 26 #[.pointer (some ⟨pd, 0, none⟩), .slice ka m kcap] w fun e w' => e = .returned (.tuple #[]) ∧ One w0 w' pd ⟨room, 0, false, S'⟩ :=
  (one_crash h ka kb koff kcap m ks hm hmx hI hks).mono fun _ _ ⟨h1, h2⟩ => ⟨h1, hS ▸ h2⟩

theorem ok_read (h : One w0 w pd ⟨room, 0, false, S⟩) (s : ByteArray) (hs : s.size ≤ maxLen) (t : ByteArray) (sy : Nat) (hf : fget S s.data.toList = some (t.data.toList, sy)) :
    Calls Tryz.prog 77 #[.pointer (some ⟨pd, 0, none⟩), .string s] w fun e w' => e = .returned (.tuple #[.string t, .int .i64 0]) ∧ One w0 w' pd ⟨room, 0, false, S⟩ :=
  one_read h s hs t 0 (by rw [rdT_eq _ rfl]; show (⟨(fdat S s.data.toList).toArray⟩ : ByteArray) = t; unfold fdat; rw [hf]) (by rw [rdE_eq _ rfl]; exact refM_some hf)

theorem no_read (h : One w0 w pd ⟨room, 0, false, S⟩) (s : ByteArray) (hs : s.size ≤ maxLen) (hf : fget S s.data.toList = none) :
    Calls Tryz.prog 77 #[.pointer (some ⟨pd, 0, none⟩), .string s] w fun e w' => e = .returned (.tuple #[.string ⟨#[]⟩, .int .i64 5]) ∧ One w0 w' pd ⟨room, 0, false, S⟩ :=
  one_read h s hs ⟨#[]⟩ 5 (by rw [rdT_eq _ rfl]; show (⟨(fdat S s.data.toList).toArray⟩ : ByteArray) = _; unfold fdat; rw [hf]) (by rw [rdE_eq _ rfl]; exact refM_none hf)

theorem ok_used (h : One w0 w pd ⟨room, 0, false, S⟩) (n : Nat) (hn : tot S = n) :
    Calls Tryz.prog 75 #[.pointer (some ⟨pd, 0, none⟩)] w fun e w' => e = .returned (.int .i64 n) ∧ One w0 w' pd ⟨room, 0, false, S⟩ := one_used h n hn

end

end Go.Proofs.YtfmhmokbbkliaaaGreat

/- The contract of tabulariumlaw04.pick. -/
namespace Go.Proofs.YtfmhmokbbkliaaaGreat
open Go.RowKit

end Go.Proofs.YtfmhmokbbkliaaaGreat
