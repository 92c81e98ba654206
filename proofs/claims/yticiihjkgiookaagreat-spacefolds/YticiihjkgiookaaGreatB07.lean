/- Part 7 of the proof: PathF5, PathF6. -/
import Derived.Test.YticiihjkgiookaaGreatB06
import Derived.Laws.AppendOwnNone
import Derived.Lib.AppendZeros

/- The contracts of slices.Equal, slices.Grow and slices.Concat, at strings. -/
namespace Go.Proofs.YticiihjkgiookaaGreat
open Go.RowKit

/-- A slice of strings that lies in memory, and its room. -/
structure Sl (w : World) (a : Option Addr) (b off cap : Nat) (ss : List ByteArray) : Prop where
  strs : Strs w a b off ss
  at2 : a = none ∨ a = some ⟨b, off, none⟩
  nil : a = none → cap = 0
  room : ss.length ≤ cap
  lid : cap ≤ maxLen

theorem Sl.below {w w' : World} {a : Option Addr} {b off cap : Nat} {ss : List ByteArray} (h : Sl w a b off cap ss) (hb : Below w.heap.size w w') : Sl w' a b off cap ss :=
  ⟨h.strs.below hb, h.at2, h.nil, h.room, h.lid⟩

theorem own_strs {w : World} {base : Nat} {v : Value} {ss : List ByteArray} (h : w.ownsRow base 9 1 v ss.length (ss.map Value.string)) (hl : ss.length ≤ 1000) (hx : ∀ x ∈ ss, x.size ≤ maxLen) :
    ∃ a b cap, v = .slice a ss.length cap ∧ Sl w a b 0 cap ss := by
  rcases h.2 with ⟨rfl, h0⟩ | ⟨g, cap, cur, rfl, hb, _, hc1, hc2, _⟩
  · exact ⟨none, 0, 0, by rw [h0], ⟨fun hp => by omega, fun j hj => by omega, hx, by unfold maxLen; omega⟩, .inl rfl, fun _ => rfl, by omega, by unfold maxLen; omega⟩
  · refine ⟨_, g, cap, rfl, ⟨fun _ => rfl, fun j hj => ?_, hx, by unfold maxLen; omega⟩, .inr rfl, fun e => (by cases e), hc1, hc2⟩
    have := h.cells (g := g) rfl j (.string ss[j]) (by simp [hj])
    rw [Addr.add_lit] at this
    exact this

theorem Sl.take {w : World} {a : Option Addr} {b off cap : Nat} {ss : List ByteArray} (h : Sl w a b off cap ss) (k : Nat) : Sl w a b off cap (ss.take k) := by
  refine ⟨⟨fun hp => h.strs.addr (by rw [List.length_take] at hp; omega), fun j hj => ?_, fun s hs => h.strs.small s (List.mem_of_mem_take hs), by rw [List.length_take]; have := h.strs.len; omega⟩, h.at2, h.nil, by rw [List.length_take]; have := h.room; omega, h.lid⟩
  rw [List.length_take] at hj
  rw [List.getElem_take]
  exact h.strs.cell j (by omega)

theorem Sl.drop0 {w : World} {b off cap : Nat} {ss : List ByteArray} (h : Sl w (some ⟨b, off, none⟩) b off cap ss) (k : Nat) (e : cap = k) : Sl w (some ⟨b, off, none⟩) b off 0 (ss.drop k) := by
  have hr := h.room
  have hd : ss.drop k = [] := List.drop_of_length_le (by omega)
  rw [hd]
  exact ⟨⟨fun _ => rfl, fun j hj => by simp at hj, by simp, by simp⟩, .inr rfl, fun e => (by cases e), by simp, by simp⟩

theorem Sl.drop1 {w : World} {b off cap : Nat} {ss : List ByteArray} (h : Sl w (some ⟨b, off, none⟩) b off cap ss) (k : Nat) (hk : k ≤ ss.length) : Sl w (some ⟨b, off + k, none⟩) b (off + k) (cap - k) (ss.drop k) := by
  have hr := h.room
  have hlid := h.lid
  refine ⟨⟨fun _ => rfl, fun j hj => ?_, fun s hs => h.strs.small s (List.mem_of_mem_drop hs), by rw [List.length_drop]; have := h.strs.len; omega⟩, .inr rfl, fun e => (by cases e), by rw [List.length_drop]; omega, by omega⟩
  rw [List.length_drop] at hj
  rw [List.getElem_drop, Nat.add_assoc]
  exact h.strs.cell (k + j) (by omega)

/-- 'append(out, xs...)', out a row of strings of the call's own, xs a slice of strings, nil or not. -/
theorem wpList_append_strs {P : Program} (w : World) {ops : Array Oper} {rest : List Oper} {o : Oper} {a : Act} {Q : Exit → Act → World → Prop} (hgd : o.guard = none) (s x : Operand) (t : TypeId)
    (ho : o.op = .call { callee := .builtin .append, args := #[s, x], argTypes := #[t, t] })
    (base : Nat) (e : TypeId) (i : TypeInfo) (ht : P.underlying t = some (.slice e)) (hi : P.info? e = some i) (hz : i.zero = some (.string ⟨#[]⟩)) (hsize : i.size = 1) (hby : i.bytes = 16)
    (v : Value) (n : Nat) (xs : List Value) (hs : a.eval s = v) (hown : w.ownsRow base e 1 v n xs)
    (ao : Option Addr) (b off c : Nat) (ss : List ByteArray) (m : Nat) (hm : ss.length = m) (hx : a.eval x = .slice ao m c) (hS : Strs w ao b off ss) (hc : ao = none → c = 0)
    (hbytes : (n + m) * 16 ≤ 140737488355328) (hbase : base ≤ w.heap.size)
    (h : ∀ v' w', w'.ownsRow base e 1 v' (n + m) (xs ++ ss.map Value.string) → w.grownBy w' v.ownBlock → wpList P ops Q rest (a.put o.dst v') w') : wpList P ops Q (o :: rest) a w := by
  subst hm
  cases ao with
  | none =>
    have h0 : ss.length = 0 := by
      rcases Nat.eq_zero_or_pos ss.length with h0 | h0
      · exact h0
      · have := hS.addr h0; cases this
    have hn : ss = [] := List.eq_nil_of_length_eq_zero h0
    subst hn
    obtain rfl := hc rfl
    refine wpList_append_own_none hgd s x t ho base e i 1 ht hi v n xs hs hown hx (h v w (by simpa using hown) (World.grownBy.refl _ _))
  | some ad =>
    refine wpList_append_own w hgd s x t ho base e i (.string ⟨#[]⟩) 1 16 ht hi hz hsize hby rfl (by decide) v n xs hs hown ad ss.length c (ss.map Value.string) hx (by simp) ?_ ?_ (by unfold maxLen; omega) hbytes hbase (fun v' w' h1 h2 _ => h v' w' h1 h2)
    · intro j u hj
      have hjl : j < ss.length := by
        have := (List.getElem?_eq_some_iff.1 hj).1
        simpa using this
      have h1 := hS.addr (by omega)
      cases h1
      rw [Addr.add_lit, hS.cell j hjl]
      simp [hjl] at hj
      rw [hj]
    · intro u hu
      obtain ⟨_, _, rfl⟩ := List.mem_map.1 hu
      rfl

theorem take_eq_step {ss tt : List ByteArray} {k : Nat} (hs : k < ss.length) (ht : k < tt.length) (h : ss.take k = tt.take k) (e : ss[k] = tt[k]) : ss.take (k + 1) = tt.take (k + 1) := by
  rw [List.take_succ_eq_append_getElem hs, List.take_succ_eq_append_getElem ht, h, e]

set_option maxRecDepth 100000 in
set_option maxHeartbeats 1000000 in
theorem equal_val (a a' : Option Addr) (b off cap b' off' cap' n : Nat) (ss tt : List ByteArray) (v : Bool) (w : World) (hS : Strs w a b off ss) (hT : Strs w a' b' off' tt) (hn : ss.length = n) (hn' : tt.length = n) (hv : decide (ss = tt) = v) :
    Calls Tryz.prog 159 #[.slice a n cap, .slice a' n cap'] w fun e w' => e = .returned (.bool v) ∧ Below w.heap.size w w' := by
  have hm := hS.len
  unfold maxLen at hm
  have HN : Hid (ss.length = n) := hn
  have HN' : Hid (tt.length = n) := hn'
  have HV : Hid (decide (ss = tt) = v) := hv
  have HS : Hid (Strs w a b off ss) := hS
  have HT : Hid (Strs w a' b' off' tt) := hT
  have hnm : n ≤ 9223372036854775807 := by omega
  clear hn hn' hv hS hT hm
  go_enter Tryz.func159, Tryz.ntmps159
  go_wp2
  go_loopw [13] (fun c wr => ∃ k q : Nat, k ≤ n ∧ c = .int .i64 k ∧ ss.take k = tt.take k ∧ wr = w.drewN q) (fun c _ => n - (intOf c).toNat)
  case atStart => exact ⟨0, 0, by omega, rfl, by simp, rfl⟩
  case round =>
    obtain ⟨k, q, hk, rfl, hE, rfl⟩ := hrel
    have E : Hid (ss.take k = tt.take k) := hE
    clear hE
    by_cases hlt : k < n
    · have hks : k < ss.length := by rw [HN.out]; exact hlt
      have hkt : k < tt.length := by rw [HN'.out]; exact hlt
      have ha := HS.out.addr (by omega)
      have ha' := HT.out.addr (by omega)
      subst ha
      subst ha'
      have hc1 : ∀ m, (w.drewN m).cell? ⟨b, off + k, none⟩ = some (.string ss[k]) := fun _ => HS.out.cell k hks
      have hc2 : ∀ m, (w.drewN m).cell? ⟨b', off' + k, none⟩ = some (.string tt[k]) := fun _ => HT.out.cell k hkt
      have hlt' : (k : Int) < (n : Int) := by omega
      by_cases he : ss[k] = tt[k]
      · have E2 : Hid (ss.take (k + 1) = tt.take (k + 1)) := take_eq_step hks hkt E.out he
        clear E
        go_wp2
        refine wp_region_quiet_lit (by kernel_rfl) (by kernel_rfl) ?_
        repeat (first | go_big_quiet_step (fail) | quiet_step (fail))
        refine wpQuiet_nil ?_
        rintro _ ⟨nq, rfl⟩
        go_wp2
        go_roundw
        case rel => exact ⟨k + 1, q + nq, by omega, by go_num, E2.out, by simp [World.drewN]⟩
        case measure => simp [intOf]; omega
      · have HF : Hid (v = false) := by
          show _ = _
          rw [← HV.out, decide_eq_false_iff_not]
          intro e; subst e; exact he rfl
        have hne : (ss[k].toList == tt[k].toList) = false := by
          rw [beq_eq_false_iff_ne, Lib.toList_data, Lib.toList_data]
          exact fun e => he (ba_inj e)
        clear E
        go_wp2
        refine wp_region_quiet_lit (by kernel_rfl) (by kernel_rfl) ?_
        repeat (first | go_big_quiet_step (fail) | quiet_step (fail))
        refine wpQuiet_nil ?_
        rintro _ ⟨nq, rfl⟩
        go_wp2
        go_ret
        refine ⟨by rw [HF.out]; rfl, ?_⟩
        have := bel_trans (bel_drewN w q) (bel_drewN (w.drewN q) nq)
        simpa using this
    · have HT2 : Hid (v = true) := by
        show _ = _
        rw [← HV.out, decide_eq_true_eq]
        have h := E.out
        rw [List.take_of_length_le (by have := HN.out; omega), List.take_of_length_le (by have := HN'.out; omega)] at h
        exact h
      go_wp2
      go_ret
      exact ⟨by rw [HT2.out]; rfl, bel_drewN _ _⟩

theorem app_bel {w3 w4 : World} (g : w3.grownBy w4 (Value.slice none 0 0).ownBlock) : Below w3.heap.size w3 w4 :=
  (Below.refl _ w3).grown g (Nat.le_refl _) (by simp [Value.ownBlock])
theorem app_bel2 {w3 w4 w5 : World} {e : TypeId} {v : Value} {n : Nat} {xs : List Value} (g : w3.grownBy w4 (Value.slice none 0 0).ownBlock) (o : w4.ownsRow w3.heap.size e 1 v n xs) (g' : w4.grownBy w5 v.ownBlock) : Below w3.heap.size w3 w5 :=
  (app_bel g).grown g' (app_bel g).size (fun k hk => (o.lt k hk).1)

theorem cat_use {w : World} {base : Nat} {v : Value} {m d : Nat} {N D : List ByteArray} (o : w.ownsRow base 9 1 v (0 + m + d) ([] ++ N.map Value.string ++ D.map Value.string)) (hN : N.length = m) (hD : D.length = d) (hm : m ≤ 100) (hd : d ≤ 100)
    (xN : ∀ x ∈ N, x.size ≤ maxLen) (xD : ∀ x ∈ D, x.size ≤ maxLen) : ∃ a b cap, v = .slice a (m + d) cap ∧ Sl w a b 0 cap (N ++ D) := by
  rw [List.nil_append, ← List.map_append, Nat.zero_add] at o
  have e : (N ++ D).length = m + d := by rw [List.length_append, hN, hD]
  rw [← e] at o
  obtain ⟨a, b, cap, rfl, hS⟩ := own_strs o (by omega) (fun x hx => (List.mem_append.1 hx).elim (xN x) (xD x))
  exact ⟨a, b, cap, by rw [e], hS⟩

/-- One string more, laid in a block of its own. -/
theorem src_one (w : World) (x : ByteArray) (t : TypeId) : ∀ j u, [Value.string x][j]? = some u → (w.alloc (.cells #[.string x] t)).cell? ((⟨w.heap.size, 0, none⟩ : Addr).add j) = some u := by
  intro j u hj
  match j, hj with
  | 0, hj => simp at hj; subst hj; simp [Addr.add]
theorem one_cell (x : ByteArray) : ∀ u ∈ [Value.string x], u.oneCell' = true := by
  intro u hu; simp at hu; subst hu; rfl
theorem app_bel3 {w3 w4 w5 : World} {e : TypeId} {v : Value} {n : Nat} {xs : List Value} {ob : Obj} (g : w3.grownBy w4 (Value.slice none 0 0).ownBlock) (o : w4.ownsRow w3.heap.size e 1 v n xs) (g' : (w4.alloc ob).grownBy w5 v.ownBlock) : Below w3.heap.size w3 w5 :=
  ((app_bel g).alloc (app_bel g).size ob).grown g' (by simp; have := (app_bel g).size; omega) (fun k hk => (o.lt k hk).1)

end Go.Proofs.YticiihjkgiookaaGreat

/- The contracts of slices.Grow (of nothing) and slices.Concat, at strings. -/
namespace Go.Proofs.YticiihjkgiookaaGreat
open Go.RowKit

set_option maxRecDepth 100000 in
set_option maxHeartbeats 1000000 in
theorem grow_val (n : Nat) (w : World) (hn : n ≤ 1000) :
    Calls Tryz.prog 186 #[.slice none 0 0, .int .i64 n] w fun e w' => (∃ v, e = .returned v ∧ w'.ownsRow w.heap.size 9 1 v 0 []) ∧ Below w.heap.size w w' := by
  obtain ⟨i0, hi, hz0, hz1, hz2⟩ := info_parts Tryz.infoStr
  by_cases h0 : n = 0
  · subst h0
    go_enter Tryz.func186, Tryz.ntmps186
    go_wp2
    go_ret
    exact ⟨⟨_, rfl, World.ownsRow_nil _ _ _ _⟩, Below.refl _ _⟩
  · have hrun := fun ty => Lib.run_append_nil_zeros (P := Tryz.prog) w 32 3 ty 9 i0 (.string ⟨#[]⟩) .i64 .i64 Tryz.underlying32 Tryz.underlying3 hi hz0 n (by omega) (by omega) (by omega) (by rw [hz2]; omega)
    have hge := grownCap_ge w n 0 9
    have hcm := grownCap_le_maxLen w n 0 9 (by unfold maxLen; omega)
    have hszz : (Builtin.zeroCells (Value.string ⟨#[]⟩).cells n ++ Builtin.zeroCells (Value.string ⟨#[]⟩).cells (grownCap w n 0 9 - n)).size = grownCap w n 0 9 * 1 := by
      rw [Array.size_append, size_zeroCells, size_zeroCells]
      show n * 1 + _ * 1 = _
      omega
    generalize grownCap w n 0 9 = c at *
    generalize Builtin.zeroCells (Value.string ⟨#[]⟩).cells n ++ Builtin.zeroCells (Value.string ⟨#[]⟩).cells (c - n) = cur at *
    have HO : Hid ((w.drew.alloc (.cells cur 9)).ownsRow w.heap.size 9 1 (.slice (some ⟨w.heap.size, 0, none⟩) 0 c) 0 []) := by
      refine ⟨by simp, .inr ⟨w.heap.size, c, cur, rfl, Nat.le_refl _, ?_, Nat.zero_le _, hcm, hszz, by simp⟩⟩
      show (w.heap.push _)[w.heap.size]? = _
      simp
    have HB : Hid (Below w.heap.size w (w.drew.alloc (.cells cur 9))) := (((Below.refl _ w).drew).alloc (Nat.le_refl _) _)
    have hcm2 : c ≤ 9223372036854775807 := by unfold maxLen at hcm; omega
    clear hszz hcm
    go_enter Tryz.func186, Tryz.ntmps186
    go_wp2_with (at_builtin; refine Lib.wpList_append_run _ rfl _ _ 32 3 rfl _ _ rfl rfl _ _ (hrun _) ?_)
    go_ret
    exact ⟨⟨_, rfl, HO.out⟩, HB.out⟩

/-- The lists of SS, the first k of them together. -/
def catS (SS : Nat → List ByteArray) : Nat → List ByteArray
  | 0 => []
  | k + 1 => catS SS k ++ SS k

set_option maxRecDepth 100000 in
set_option maxHeartbeats 1000000 in
theorem concat_any (g : Nat) (A : Nat → Option Addr) (N B F C : Nat → Nat) (SS : Nat → List ByteArray) (w : World)
    (hc : ∀ k, k < 2 → w.cell? ⟨g, k, none⟩ = some (.slice (A k) (N k) (C k))) (hS : ∀ k, k < 2 → Sl w (A k) (B k) (F k) (C k) (SS k)) (hN : ∀ k, k < 2 → (SS k).length = N k) (hl : ∀ k, k < 2 → N k ≤ 100) :
    Calls Tryz.prog 160 #[.slice (some ⟨g, 0, none⟩) 2 2] w fun e w' => (∃ v, e = .returned v ∧ w'.ownsRow w.heap.size 9 1 v (catS SS 2).length ((catS SS 2).map Value.string)) ∧ Below w.heap.size w w' := by
  obtain ⟨i0, hi, hz0, hz1, hz2⟩ := info_parts Tryz.infoStr
  have HC : Hid (∀ k, k < 2 → w.cell? ⟨g, k, none⟩ = some (.slice (A k) (N k) (C k))) := hc
  have HS : Hid (∀ k, k < 2 → Sl w (A k) (B k) (F k) (C k) (SS k)) := hS
  have HN : Hid (∀ k, k < 2 → (SS k).length = N k) := hN
  have HL : Hid (∀ k, k < 2 → N k ≤ 100) := hl
  clear hc hS hN hl
  have HT : Hid (∀ k, k ≤ 2 → (catS SS k).length ≤ 100 * k) := by
    intro k hk
    induction k with
    | zero => simp [catS]
    | succ k ih =>
      have h1 := HN.out k (by omega)
      have h2 := HL.out k (by omega)
      have h3 := ih (by omega)
      rw [catS, List.length_append]; omega
  go_enter Tryz.func160, Tryz.ntmps160
  go_wp2
  go_loop [3, 11] (fun s c => ∃ k : Nat, k ≤ 2 ∧ c = .int .i64 k ∧ s = .int .i64 (((catS SS k).length : Nat) : Int)) (fun _ c => 2 - (intOf c).toNat)
  case atStart => exact ⟨0, by omega, rfl, rfl⟩
  case round =>
    obtain ⟨k, hk, rfl, rfl⟩ := hrel
    have ht := HT.out k hk
    by_cases hlt : k < 2
    · have hc := HC.out k hlt
      have hl := HL.out k hlt
      have HE : Hid ((catS SS (k + 1)).length = (catS SS k).length + N k) := by show _ = _; rw [catS, List.length_append, HN.out k hlt]
      generalize (catS SS k).length = T at *
      generalize A k = Ak at *
      generalize N k = Nk at *
      generalize C k = Ck at *
      go_wp2
      go_round
      case rel => exact ⟨k + 1, by omega, by go_num, by rw [HE.out]; go_num⟩
      case measure => simp [intOf]; omega
    · have hk2 : k = 2 := by omega
      subst hk2
      have HTT : Hid ((catS SS 2).length ≤ 1000) := by show _ ≤ _; omega
      obtain ⟨T, hT⟩ : ∃ T, (catS SS 2).length = T := ⟨_, rfl⟩
      rw [hT] at ht ⊢
      have HTe : Hid ((catS SS 2).length = T) := hT
      clear hT
      go_wp2_with (go_at_call 186; refine (grow_val T _ (by omega)).mono ?_; rintro e w1 ⟨⟨v0, rfl, ho0⟩, b1⟩)
      go_loopw [6, 27] (fun v c wr => ∃ k : Nat, k ≤ 2 ∧ c = .int .i64 k ∧ wr.ownsRow w.heap.size 9 1 v (catS SS k).length ((catS SS k).map Value.string) ∧ Below w.heap.size w wr) (fun _ c _ => 2 - (intOf c).toNat)
      case atStart => exact ⟨0, by omega, rfl, ho0, b1⟩
      case round =>
        obtain ⟨k, hk, rfl, hown, hbel⟩ := hrel
        have hsz := hbel.size
        by_cases hlt : k < 2
        · have hc0 := HC.out k hlt
          have hg : g < w.heap.size := World.block_lt_of_cell? _ _ hc0
          have hc : wr.cell? ⟨g, k, none⟩ = some (.slice (A k) (N k) (C k)) := (hbel.cell (p := ⟨g, k, none⟩) hg).trans hc0
          have hl := HL.out k hlt
          have hSl := (HS.out k hlt).below hbel
          have hNk := HN.out k hlt
          have htk := HT.out k (by omega)
          clear hc0
          go_wp2_with (at_builtin; refine wpList_append_strs _ rfl _ _ 32 rfl w.heap.size 9 i0 Tryz.underlying32 hi hz0 hz1 hz2 _ _ _ rfl hown (A k) (B k) (F k) (C k) (SS k) (N k) hNk rfl hSl.strs hSl.nil (by omega) hsz ?_; intro v4 w4 o4 g4)
          have o5 : w4.ownsRow w.heap.size 9 1 v4 (catS SS (k + 1)).length ((catS SS (k + 1)).map Value.string) := by
            rw [catS, List.map_append, List.length_append, hNk]; exact o4
          have bel4 : Below w.heap.size w w4 := hbel.grown g4 hsz (fun j hj => (hown.lt j hj).1)
          clear o4 g4 hown hbel hSl hc
          go_wp2
          go_roundw
          case rel => exact ⟨k + 1, by omega, by go_num, o5, bel4⟩
          case measure => simp [intOf]; omega
        · have hk2 : k = 2 := by omega
          subst hk2
          go_wp2
          go_ret
          exact ⟨⟨_, rfl, hown⟩, hbel⟩

end Go.Proofs.YticiihjkgiookaaGreat
