/- The contract of disk.Crash. -/
import Derived.Test.YtokldcifhjkmnaaDiskF7
import Derived.Test.YtokldcifhjkmnaaRowPlain
namespace Go.Proofs.Ytokldcifhjkmnaa
open Go.RowKit

theorem cut_val {O : Nat → Prop} {w0 : World} {a : Option Addr} {c : Nat} {l : List UInt8} {g : Option Nat} (hy : Byt O w0 (.slice a l.length c) l g) (sy : Nat) (k : Int) (w : World) (hL : l.length ≤ 400000) (hs : sy ≤ l.length) (hk : -9223372036854775808 ≤ k ∧ k ≤ 9223372036854775807) (e : Nat) (he : cutN (l, sy) k = e) :
    Calls Try.prog 55 #[.agg #[.slice a l.length c, .int .i64 (sy : Int)], .int .i64 k] w fun x w' => x = .returned (.agg #[.slice a e c, .int .i64 (e : Int)]) ∧ Below w.heap.size w w' := by
  cases hy with
  | nil h1 h2 =>
    subst h2
    cases h1
    have : e = 0 := by
      have hs0 : sy = 0 := by simpa using hs
      rw [← he, hs0]; unfold cutN; simp; omega
    subst this
    have hs0 : sy = 0 := by simpa using hs
    subst hs0
    exact cut_nil _ k w hk rfl
  | row g cap h1 h2 h3 h4 h5 h6 h7 =>
    cases h1
    exact cut_row g l.length _ sy e _ k w hL hs h4 h5 hk rfl he

theorem Ints.stay {O : Nat → Prop} {w w' : World} {k : IntKind} {a : Option Addr} {b off : Nat} {zs : List Int} (h : Ints w k a b off zs) (hs : Stay O w w') (hb : 0 < zs.length → ¬ O b) : Ints w' k a b off zs :=
  ⟨h.addr, fun j hj => (World.cell?_of_block (a := ⟨b, off + j, none⟩) (hs.block b (h.lt (by omega)) (hb (by omega)))).trans (h.cell j hj)⟩

theorem below_of_drew {w w' : World} (h : Below w.drew.heap.size w.drew w') : Below w.heap.size w w' := ⟨h.os, h.tape, h.output, h.size, h.block⟩

/-- A row of names. -/
theorem own_names {w : World} {base : Nat} {e : TypeId} {v : Value} {n : Nat} {xs : List (List UInt8)} (h : w.ownsRow base e 1 v n (xs.map encStr)) :
    n = xs.length ∧ ∃ a cap b, v = .slice a xs.length cap ∧ (0 < xs.length → a = some ⟨b, 0, none⟩ ∧ base ≤ b ∧ b < w.heap.size) ∧ ∀ j (hj : j < xs.length), w.cell? ⟨b, j, none⟩ = some (.string ⟨xs[j].toArray⟩) := by
  have hlen := h.1
  simp at hlen
  have hl : n = xs.length := hlen.symm
  subst hl
  refine ⟨rfl, ?_⟩
  rcases h.2 with ⟨rfl, h0⟩ | ⟨g, cap, cur, rfl, hb, hg, _⟩
  · refine ⟨none, 0, 0, by rw [h0], fun hp => by omega, fun j hj => by omega⟩
  · refine ⟨some ⟨g, 0, none⟩, cap, g, rfl, fun _ => ⟨rfl, hb, (Array.getElem?_eq_some_iff.1 hg).1⟩, fun j hj => ?_⟩
    have := h.cells (g := g) rfl j (encStr xs[j]) (by simp [hj])
    rw [Addr.add_lit, Nat.zero_add] at this
    exact this

theorem own_fs {w : World} {base : Nat} {e : TypeId} {v : Value} {n m : Nat} {S : FS} (h : w.ownsRow base e 1 v m ((S.map (·.1)).map encStr)) (hn : S.length = n) :
    ∃ a cap b, v = .slice a n cap ∧ (0 < n → a = some ⟨b, 0, none⟩ ∧ base ≤ b ∧ b < w.heap.size) ∧ ∀ j (hj : j < S.length), w.cell? ⟨b, j, none⟩ = some (.string ⟨S[j].1.toArray⟩) := by
  obtain ⟨h0, a, cap, b, h1, h2, h3⟩ := own_names h
  have hl : (S.map (·.1)).length = n := by rw [List.length_map, hn]
  rw [hl] at h1 h2
  exact ⟨a, cap, b, h1, h2, fun j hj => by have := h3 j (by rw [List.length_map]; exact hj); rwa [List.getElem_map] at this⟩

section
variable {O : Nat → Prop} {w : World} {pd b : Nat} {V : List UInt8 → Value} {B : List UInt8 → Option Nat} {room fuse : Int} {down : Bool} {S : FS}

set_option maxRecDepth 100000 in
set_option maxHeartbeats 2000000 in
theorem crash_da (h : DA O w pd b V B room fuse down S) (ka : Option Addr) (kb koff kcap m n : Nat) (ks : List Int) (hm : ks.length = m) (hn : S.length = n) (hmx : m ≤ maxLen) (hI : Ints w .i64 ka kb koff ks) (hkb : 0 < m → ¬ O kb) (hks : ∀ k ∈ ks, -9223372036854775808 ≤ k ∧ k ≤ 9223372036854775807) :
    Calls Try.prog 23 #[.pointer (some ⟨pd, 0, none⟩), .slice ka m kcap] w fun e w' => e = .returned (.tuple #[]) ∧ (∃ V' B', DA O w' pd b V' B' room 0 false (crashL ks S)) ∧ Stay O w w' := by
  have hm63 : m ≤ 9223372036854775807 := by unfold maxLen at hmx; omega
  have hn20 : n ≤ 20 := by have := h.most; omega
  have C1 : Hid _ := fun (_ : Unit) => names_val h
  have HH : Hid (DA O w pd b V B room fuse down S) := h
  have HM : Hid _ := hm
  have HN : Hid _ := hn
  have HI : Hid _ := hI
  have HK : Hid (0 < m → ¬ O kb) := hkb
  have HKS : Hid _ := hks
  clear h hm hn hmx hI hkb hks
  go_enter Try.func23, Try.ntmps23
  go_wp2_with fail
  refine (C1.out ()).mono ?_
  rintro e w1 ⟨v, rfl, hv, -, b1⟩
  clear C1
  obtain ⟨na, nc, nb, rfl, hna, hnc⟩ := own_fs hv HN.out
  have HC : Hid _ := hnc
  have HA : Hid (0 < n → na = some ⟨nb, 0, none⟩ ∧ w.heap.size ≤ nb ∧ nb < w1.heap.size) := hna
  clear hv hna hnc
  go_wp2
  go_loopw [10] (fun c wr => ∃ (k : Nat) (V' : List UInt8 → Value) (B' : List UInt8 → Option Nat), k ≤ n ∧ c = .int .i64 k ∧ DA O wr pd b V' B' room fuse down (crashTo ks S k) ∧ Stay O w1 wr) (fun c _ => n - (intOf c).toNat)
  case atStart => exact ⟨0, V, B, by omega, rfl, by rw [crashTo_zero]; exact HH.out.below b1, Stay.refl _ _⟩
  case round =>
    obtain ⟨k, V', B', hk, rfl, hD, hS⟩ := hrel
    by_cases hlt : k < n
    · have hkS : k < S.length := by rw [HN.out]; exact hlt
      obtain ⟨rfl, hnb, hnb2⟩ := HA.out (by omega)
      have hnO : ¬ O nb := fun e => by have := HH.out.lt nb e; omega
      have hcell : wr.cell? ⟨nb, k, none⟩ = some (.string ⟨S[k].1.toArray⟩) := (World.cell?_of_block (a := ⟨nb, k, none⟩) (hS.block nb hnb2 hnO)).trans (HC.out k hkS)
      have hsp := crashTo_split ks S k hkS
      have hnx := crashTo_next ks S k hkS
      generalize crashL ks (S.take k) = A at *
      generalize S.drop (k + 1) = R at *
      generalize S[k] = p at *
      obtain ⟨nm, l, sy⟩ := p
      rw [hsp] at hD
      have hrise := hD.rise
      have hf : fget (A ++ (nm, l, sy) :: R) nm = some (l, sy) := fget_mid hrise
      obtain ⟨s, hs⟩ : ∃ s : ByteArray, (⟨nm.toArray⟩ : ByteArray) = s := ⟨_, rfl⟩
      have hsl : s.data.toList = nm := by rw [← hs]
      have hcell2 : wr.cell? ⟨nb, k, none⟩ = some (.string s) := by rw [← hs]; exact hcell
      have hnmO : 1 ≤ nm.length ∧ nm.length ≤ 30 := hD.name _ (fget_mem hf)
      have hsm : s.size ≤ maxLen := by rw [← hs]; show nm.toArray.size ≤ _; rw [List.size_toArray]; unfold maxLen; omega
      have hkey := WideMaps.keyOf_string_mk (P := Try.prog) Try.underlying9 hsm
      rw [hsl] at hkey
      obtain ⟨a, c, hV, hy⟩ := hD.at hf
      have hat : (dm V' (A ++ (nm, l, sy) :: R)).atKey (.string nm) (.held (.agg #[.slice none 0 0, .int .i64 0])) = .held (.agg #[.slice a l.length c, .int .i64 (sy : Int)]) := by rw [dm_at, hf, hV]; rfl
      have hdat := hD.data _ (fget_mem hf)
      have hl4 : l.length ≤ 400000 := hdat.1
      have hsl4 : sy ≤ l.length := hdat.2
      have c1 := hD.c1
      have hown := hD.own
      obtain ⟨ee, hee⟩ : ∃ ee, cutN (l, sy) (ks.getD k 0) = ee := ⟨_, rfl⟩
      have hee2 := cutN_le (f := (l, sy)) hsl4 (ks.getD k 0)
      rw [hee] at hee2
      have hlk : (Instr.lookup 64 (.map (some b)) (.string s) false).run Try.prog wr.drew = .ok (.agg #[.slice a l.length c, .int .i64 (sy : Int)]) wr.drew := by
        obtain ⟨v, ps, h1, h2⟩ := hown.drew.lookup lawK Try.underlying64 (zeroF _) (rv_mk _ _ _ _) hkey
        rw [hat] at h2
        rw [← rv_held h2]; exact h1
      have hkv : ∃ kv, ks.getD k 0 = kv ∧ -9223372036854775808 ≤ kv ∧ kv ≤ 9223372036854775807 := by
        refine ⟨_, rfl, ?_⟩
        by_cases hkm : k < ks.length
        · rw [List.getD_eq_getElem?_getD, List.getElem?_eq_getElem hkm]; exact HKS.out _ (List.getElem_mem hkm)
        · rw [List.getD_eq_getElem?_getD, List.getElem?_eq_none (by omega)]; simp
      obtain ⟨kv, hkv, hkv2⟩ := hkv
      rw [hkv] at hee
      have CC : Hid (∀ W, Calls Try.prog 55 #[.agg #[.slice a l.length c, .int .i64 (sy : Int)], .int .i64 kv] W fun x w' => x = .returned (.agg #[.slice a ee c, .int .i64 (ee : Int)]) ∧ Below W.heap.size W w') := fun W => cut_val hy sy kv W hl4 hsl4 hkv2 ee hee
      have HD : Hid (DA O wr pd b V' B' room fuse down (A ++ (nm, l, sy) :: R)) := hD
      have HMU : Hid (∀ w2, Below wr.drew.heap.size wr.drew w2 → ∃ W5, (Instr.mapUpdate 64 (.map (some b)) (.string s) (.agg #[.slice a ee c, .int .i64 (ee : Int)])).run Try.prog w2 = .ok () W5 ∧ W5.ownsMap Try.prog 9 rv b ((A ++ (nm, l, sy) :: R).length + 1) ((dm V' (A ++ (nm, l, sy) :: R)).put (.string nm) (.held (.agg #[.slice a ee c, .int .i64 (ee : Int)]))) ∧ w2.mapTurned W5 b) := fun w2 bw =>
        (hD.below (below_of_drew bw)).own.store lawK Try.underlying64 (by have := hD.most; unfold maxLen; omega) hkey (rv_mk a ee c (ee : Int))
      have CP : Hid (∀ w2, Below wr.drew.heap.size wr.drew w2 → w2.cell? ⟨pd, 1, none⟩ = some (.map (some b))) := fun w2 bw => (hD.below (below_of_drew bw)).c1
      have hlt5 : (l.take ee).length = ee := by rw [List.length_take]; have := hee2.2; simp at this; omega
      have hfp : fput (A ++ (nm, l, sy) :: R) nm (l.take ee, ee) = A ++ (nm, l.take ee, ee) :: R := fput_mid hrise
      have RS : Hid (∀ w2 W5, Below wr.drew.heap.size wr.drew w2 → W5.ownsMap Try.prog 9 rv b ((A ++ (nm, l, sy) :: R).length + 1) ((dm V' (A ++ (nm, l, sy) :: R)).put (.string nm) (.held (.agg #[.slice a ee c, .int .i64 (ee : Int)]))) → w2.mapTurned W5 b →
          DA O W5 pd b (upd V' nm (.agg #[.slice a ee c, .int .i64 (ee : Int)])) (fun m => if m = nm then B' nm else B' m) room fuse down (A ++ (nm, l.take ee, ee) :: R) ∧ Stay O w1 W5) := fun w2 W5 bw ho5 ht5 => by
        have bw' := below_of_drew bw
        have hD2 := hD.below bw'
        have hmost := hD.most
        have hused := hD.used
        have hput := hD.put (w1 := w2) (w2 := W5) (O1 := O) (n := nm) (sl := .slice a ee c) (l := l.take ee) (s := ee) (g := B' nm) (fun _ e => e) hD2.lt ((hy.stay bw'.size (fun k hk => bw'.block k (by rw [hk] at hy; exact hy.lt.1)) (fun _ e => e)).cut ee (by have := hee2.2; simpa using this))
          (Stay.of_below bw') (hD.fresh (fun k hk => .inl ⟨hk, by rw [hf]; rfl⟩)) ho5 ht5 hnmO ⟨by have := hee2.2; simp at this; omega, by omega⟩ (by rw [hfp]; simpa using hmost)
          (by
            rw [hfp]
            rw [tot_append, tot_cons] at hused ⊢
            simp only [hlt5] at hused ⊢
            have := hee2.2
            simp only at this hused
            omega)
        rw [hfp] at hput
        exact ⟨hput, hS.then_same ((Stay.of_below bw').then_same (Stay.of_grown ht5.grown (fun k e => by cases e; exact hD.oB)))⟩
      have hHF : Hid (fget (A ++ (nm, l.take ee, ee) :: R) nm = some (l.take ee, ee)) := by
        have := rise_fput hrise nm (l.take ee, ee)
        rw [hfp] at this
        exact fget_mid this
      have hHR : Hid (Rise (A ++ (nm, l.take ee, ee) :: R)) := by
        have := rise_fput hrise nm (l.take ee, ee)
        rw [hfp] at this
        exact this
      have HNX : Hid _ := hnx
      have HRI : Hid _ := hrise
      have HY : Hid _ := hy
      have HFF : Hid _ := hf
      have HS : Hid (Stay O w1 wr) := hS
      have HKV : Hid _ := hkv
      have HEE : Hid _ := hee
      clear hD hnx hrise hy hf hS hat hV hdat hsp hcell hs HA HC HH HKS hsl hee hlt5 hfp
      by_cases hkm : k < m
      · have hkm2 : k < ks.length := by rw [HM.out]; exact hkm
        obtain rfl := HI.out.addr (by omega)
        have hkc : wr.cell? ⟨kb, koff + k, none⟩ = some (.int .i64 kv) := by
          have h1 := HI.out.cell k hkm2
          have h2 : ks[k] = kv := by rw [← HKV.out, List.getD_eq_getElem?_getD, List.getElem?_eq_getElem hkm2]; rfl
          rw [h2] at h1
          have hlt2 := HI.out.lt (by omega)
          exact (World.cell?_of_block (a := ⟨kb, koff + k, none⟩) ((HS.out.block kb (Nat.lt_of_lt_of_le hlt2 b1.size) (HK.out (by omega))).trans (b1.block kb hlt2))).trans h1
        clear hnb hnb2 hnO hkS
        go_wp2
        go_region_with (go_at_call 55; refine (CC.out _).mono ?_; rintro x w2 ⟨rfl, bw⟩; obtain ⟨W5, hmu, ho5, ht5⟩ := HMU.out w2 bw; have c12 := CP.out w2 bw)
        all_goals
          obtain ⟨hD5, hS5⟩ := RS.out w2 W5 bw ho5 ht5
          have c15 := hD5.c1
          have hown5 := hD5.own
          have hat5 : (dm (upd V' nm (.agg #[.slice a ee c, .int .i64 (ee : Int)])) (A ++ (nm, l.take ee, ee) :: R)).atKey (.string nm) (.held (.agg #[.slice none 0 0, .int .i64 0])) = .held (.agg #[.slice a ee c, .int .i64 (ee : Int)]) := by rw [dm_at, hHF.out, upd_same]; rfl
          have hfl := fieldF a ee c (ee : Int) W5
          have HD5 : Hid (DA O W5 pd b (upd V' nm (.agg #[.slice a ee c, .int .i64 (ee : Int)])) (fun m => if m = nm then B' nm else B' m) room fuse down (A ++ (nm, l.take ee, ee) :: R)) := hD5
          have HS5 : Hid (Stay O w1 W5) := hS5
          clear hD5 hS5 hmu ho5 ht5 c12 bw HMU CP CC hlk hown
          rcases Nat.eq_zero_or_pos ee with he0 | he0
          · subst he0
            have hfl0 := fieldF a 0 c 0 W5
            go_wp2_with (first
              | (at_lookup; refine wpList_look _ rfl _ _ 64 rfl 9 72 lawK Try.underlying64 (zeroF _) (rv_mk _ _ _ _) b _ _ rfl hown5 _ _ rfl hkey _ hat5 ?_)
              | (at_delete; refine wpList_delete_own _ rfl _ _ 64 9 rfl 72 lawK Try.underlying64 rv b _ _ rfl hown5 _ _ rfl hkey ?_; intro W6 ho6 ht6))
            go_roundw
            case rel =>
              have hD6 := HD5.out.del ho6 ht6
              rw [fdel_mid hHR.out] at hD6
              have e6 := HNX.out
              simp only [HKV.out, HEE.out, if_true, List.nil_append] at e6
              refine ⟨k + 1, upd V' nm (.agg #[.slice a 0 c, .int .i64 ((0 : Nat) : Int)]), fun m => if m = nm then B' nm else B' m, by omega, by go_num, ?_, HS5.out.then_same (Stay.of_grown ht6.grown (fun k e => by cases e; exact HD5.out.oB))⟩
              rw [e6]; exact hD6
            case measure => simp [intOf]; omega
          · have he1 : ¬ ee = 0 := by omega
            go_wp2_with (at_lookup; refine wpList_look _ rfl _ _ 64 rfl 9 72 lawK Try.underlying64 (zeroF _) (rv_mk _ _ _ _) b _ _ rfl hown5 _ _ rfl hkey _ hat5 ?_)
            go_roundw
            case rel =>
              have e6 := HNX.out
              simp only [HKV.out, HEE.out, he1, if_false] at e6
              refine ⟨k + 1, upd V' nm (.agg #[.slice a ee c, .int .i64 (ee : Int)]), fun m => if m = nm then B' nm else B' m, by omega, by go_num, ?_, HS5.out⟩
              rw [e6]; exact HD5.out
            case measure => simp [intOf]; omega
      · have hkz : kv = 0 := by rw [← HKV.out, List.getD_eq_getElem?_getD, List.getElem?_eq_none (by rw [HM.out]; omega)]; rfl
        subst hkz
        clear hnb hnb2 hnO hkS
        go_wp2
        go_region_with (go_at_call 55; refine (CC.out _).mono ?_; rintro x w2 ⟨rfl, bw⟩; obtain ⟨W5, hmu, ho5, ht5⟩ := HMU.out w2 bw; have c12 := CP.out w2 bw)
        all_goals
          obtain ⟨hD5, hS5⟩ := RS.out w2 W5 bw ho5 ht5
          have c15 := hD5.c1
          have hown5 := hD5.own
          have hat5 : (dm (upd V' nm (.agg #[.slice a ee c, .int .i64 (ee : Int)])) (A ++ (nm, l.take ee, ee) :: R)).atKey (.string nm) (.held (.agg #[.slice none 0 0, .int .i64 0])) = .held (.agg #[.slice a ee c, .int .i64 (ee : Int)]) := by rw [dm_at, hHF.out, upd_same]; rfl
          have hfl := fieldF a ee c (ee : Int) W5
          have HD5 : Hid (DA O W5 pd b (upd V' nm (.agg #[.slice a ee c, .int .i64 (ee : Int)])) (fun m => if m = nm then B' nm else B' m) room fuse down (A ++ (nm, l.take ee, ee) :: R)) := hD5
          have HS5 : Hid (Stay O w1 W5) := hS5
          clear hD5 hS5 hmu ho5 ht5 c12 bw HMU CP CC hlk hown
          rcases Nat.eq_zero_or_pos ee with he0 | he0
          · subst he0
            have hfl0 := fieldF a 0 c 0 W5
            go_wp2_with (first
              | (at_lookup; refine wpList_look _ rfl _ _ 64 rfl 9 72 lawK Try.underlying64 (zeroF _) (rv_mk _ _ _ _) b _ _ rfl hown5 _ _ rfl hkey _ hat5 ?_)
              | (at_delete; refine wpList_delete_own _ rfl _ _ 64 9 rfl 72 lawK Try.underlying64 rv b _ _ rfl hown5 _ _ rfl hkey ?_; intro W6 ho6 ht6))
            go_roundw
            case rel =>
              have hD6 := HD5.out.del ho6 ht6
              rw [fdel_mid hHR.out] at hD6
              have e6 := HNX.out
              simp only [HKV.out, HEE.out, if_true, List.nil_append] at e6
              refine ⟨k + 1, upd V' nm (.agg #[.slice a 0 c, .int .i64 ((0 : Nat) : Int)]), fun m => if m = nm then B' nm else B' m, by omega, by go_num, ?_, HS5.out.then_same (Stay.of_grown ht6.grown (fun k e => by cases e; exact HD5.out.oB))⟩
              rw [e6]; exact hD6
            case measure => simp [intOf]; omega
          · have he1 : ¬ ee = 0 := by omega
            go_wp2_with (at_lookup; refine wpList_look _ rfl _ _ 64 rfl 9 72 lawK Try.underlying64 (zeroF _) (rv_mk _ _ _ _) b _ _ rfl hown5 _ _ rfl hkey _ hat5 ?_)
            go_roundw
            case rel =>
              have e6 := HNX.out
              simp only [HKV.out, HEE.out, he1, if_false] at e6
              refine ⟨k + 1, upd V' nm (.agg #[.slice a ee c, .int .i64 (ee : Int)]), fun m => if m = nm then B' nm else B' m, by omega, by go_num, ?_, HS5.out⟩
              rw [e6]; exact HD5.out
            case measure => simp [intOf]; omega
    · obtain rfl : k = n := by omega
      have e6 : crashTo ks S k = crashL ks S := by rw [← HN.out, crashTo_end]
      rw [e6] at hD
      have f2 := hD.f2
      have f3 := hD.f3
      have c2 := hD.c2
      have c3 := hD.c3
      have HD2 : Hid _ := (hD.setFuse 0 (by omega)).setDown false
      have HS2 : Hid _ := (Stay.of_below b1).then_same (hS.then_same ((Stay.setCell (O := O) wr ⟨pd, 2, none⟩ (.int .i64 0) hD.oP).then_same (Stay.setCell (O := O) _ ⟨pd, 3, none⟩ (.bool false) hD.oP)))
      clear hD hS e6 HA HC HH
      go_wp2
      go_end0
      exact ⟨rfl, ⟨V', B', HD2.out⟩, HS2.out⟩

end

end Go.Proofs.Ytokldcifhjkmnaa
