/- MailTakes: for every number and every list of numbers: the statement's function returns true; nothing that was there is changed. No condition. -/
import Derived.Test.YtgjbafpjllfdeaaMailNums
import Derived.Test.YtgjbafpjllfdeaaOpenAll
import Derived.Laws.Cover2
namespace Go.Proofs.Ytgjbafpjllfdeaa.mailTakes
open Go.ChangeShapes Go.WideShapes Go.ChangeAt Go.RowKit
open Go.ChangeMaps (open_string shut_string)
set_option linter.unusedVariables false

theorem own : ownKnob Try.prog.godebug = none := by kernel_rfl

theorem boolRow : ∃ i, Try.prog.info? 4 = some i ∧ i.zero = some (.bool false) ∧ i.size = 1 ∧ i.bytes = 1 :=
  info_parts (show (Try.prog.info? 4).map (fun i => (i.zero, i.size, i.bytes)) = some (some (.bool false), 1, 1) by kernel_rfl)

def boolC (b : Bool) : List Value := [.bool b]
theorem wideB : Wide boolC 1 := ⟨fun _ => rfl, fun x u hu => by simp [boolC] at hu; subst hu; rfl⟩

theorem made_bools (N : Nat) : (madeCells (Value.bool false).cells (N * 1)).toList = rowC boolC (List.replicate N false) := by
  have e : ∀ n, rowC boolC (List.replicate n false) = List.replicate n (Value.bool false) := fun n => by
    induction n with
    | zero => rfl
    | succ n ih => rw [List.replicate_succ, rowC_cons, ih]; rfl
  rw [e, Nat.mul_one]
  show ((Array.range N).map (fun i => (#[Value.bool false] : Array Value)[i % 1]!)).toList = _
  rw [Array.toList_map, show (fun i : Nat => (#[Value.bool false] : Array Value)[i % 1]!) = fun _ => Value.bool false by funext i; rw [Nat.mod_one]; rfl, List.map_const', Array.length_toList, Array.size_range]

/-- A row of truths. -/
def BAt (b N : Nat) (bs : List Bool) : Thing := fun O w => Cel O w 1 (.slice (some ⟨b, 0, none⟩) N N) N (rowC boolC bs) (some b)
theorem stB (b N : Nat) (bs : List Bool) : St (BAt b N bs) := fun O O2 w w' h hs hd => by
  unfold BAt at *
  exact h.stay hs.size (fun k hk => by cases hk; exact hs.block b h.lt.1 (hd b h.lt.2)) (fun _ e => e)

section
variable {w0 w : World} {L : List (Nat × Option Obj)} {A1 A2 : Thing}

/-- What the second one does. -/
theorem step2 {w' : World} {A2' : Thing} (h : Sep w0 L w A1 A2) (s1 : St A1) (H : ∀ O, A2 O w → A2' (Grow O w w') w' ∧ Stay O w w') : Sep w0 L w' A1 A2' := by
  obtain ⟨O1, O2, h1, h2, h3, h4, h5, h6, h7⟩ := h.swap.out
  obtain ⟨e2, e3⟩ := H O1 h1
  exact (Sep.did s1 h2 h3 h4 h5 h6 h7 e2 e3).swap

theorem addRow {w' : World} (h : Sep w0 L w A1 Non) (s1 : St A1) (hb : Below w.heap.size w w') {A2' : Thing} (h2 : A2' (fun k => w.heap.size ≤ k ∧ k < w'.heap.size) w') : Sep w0 L w' A1 A2' := by
  obtain ⟨O1, O2, e1, e2, e3, e4, e5, e6, e7⟩ := h.out
  refine ⟨O1, _, s1 _ (fun _ => False) _ _ e1 (Stay.of_below hb) (fun _ _ e => e), h2, fun k hk e => by have := (e4 k hk).2; omega, fun k hk => ⟨(e4 k hk).1, Nat.lt_of_lt_of_le (e4 k hk).2 hb.size⟩, fun k hk => ⟨Nat.le_trans e6.size hk.1, hk.2⟩, bel_tr e6 hb, fun q hq => ?_⟩
  obtain ⟨a, b, c, d⟩ := e7 q hq
  exact ⟨a, fun e => by omega, Nat.lt_of_lt_of_le c hb.size, (hb.block q.1 c).trans d⟩

theorem take_at {p : Nat} {xs : ML} (h : Sep w0 L w (fun O w => MAt O w p xs) A2) (s2 : St A2) (k : Nat) (hk : k < xs.length) (hle : xs.length ≤ 1000) (t : Int) (d : ByteArray) (hm : xs[k].1 = ⟨t, d⟩) :
    Calls Try.prog 12 #[.pointer (some ⟨p, 0, none⟩), .int .i64 (k : Int)] w fun e w' => e = .returned (.tuple #[.agg #[.int .i64 t, .string d], .bool true]) ∧ Sep w0 L w' (fun O w => MAt O w p (xs.eraseIdx k)) A2 :=
  s_take h s2 (k : Int) hle (some ⟨t, d⟩) (by rw [atM_nat hk, hm]) (by unfold takeL; rw [if_pos (by omega), Int.toNat_natCast])

end

/-- What is still on its way has not been met. -/
structure Left (N : Nat) (xs : ML) (bs : List Bool) : Prop where
  len : bs.length = N
  un : (xs.map (·.1.t)).Nodup
  at_ : ∀ x ∈ xs, ∃ j : Nat, x.1.t = (j : Int) ∧ j < N ∧ bs[j]? = some false

theorem left_start (N : Nat) (d : ByteArray) : Left N (nums d N) (List.replicate N false) := by
  refine ⟨by simp, ?_, fun x hx => ?_⟩
  · have e : (nums d N).map (·.1.t) = (List.range N).map (fun (j : Nat) => (j : Int)) := by simp [nums]
    rw [e]
    refine List.Pairwise.map _ (fun a b h => ?_) (List.nodup_range (n := N))
    intro e; exact h (by omega)
  · unfold nums at hx
    obtain ⟨j, hj, rfl⟩ := List.mem_map.1 hx
    have hj2 := List.mem_range.1 hj
    exact ⟨j, rfl, hj2, by rw [List.getElem?_replicate, if_pos hj2]⟩

theorem left_take {N : Nat} {xs : ML} {bs : List Bool} (h : Left N xs bs) (k : Nat) (hk : k < xs.length) (j : Nat) (hj : xs[k].1.t = (j : Int)) : Left N (xs.eraseIdx k) (bs.set j true) := by
  have hsub : (xs.eraseIdx k).Sublist xs := List.eraseIdx_sublist ..
  refine ⟨by rw [List.length_set]; exact h.len, h.un.sublist (hsub.map _), fun x hx => ?_⟩
  obtain ⟨i, h1, h2, h3⟩ := h.at_ x (hsub.subset hx)
  refine ⟨i, h1, h2, ?_⟩
  rw [List.getElem?_set]
  by_cases e : j = i
  · exfalso
    have hd : xs = xs.take k ++ xs[k] :: xs.drop (k + 1) := by rw [← List.drop_eq_getElem_cons hk, List.take_append_drop]
    have hu := h.un
    rw [hd, List.map_append, List.map_cons, List.nodup_append] at hu
    obtain ⟨_, hu2, hu3⟩ := hu
    rw [List.eraseIdx_eq_take_drop_succ] at hx
    rcases List.mem_append.1 hx with hx | hx
    · exact hu3 _ (List.mem_map.2 ⟨x, hx, rfl⟩) _ (List.mem_cons_self ..) (by rw [h1, hj, e])
    · exact (List.nodup_cons.1 hu2).1 (List.mem_map.2 ⟨x, hx, by rw [h1, hj, e]⟩)
  · rw [if_neg e]; exact h3

/-- One is met. -/
theorem meet {w0 w : World} {L : List (Nat × Option Obj)} {A1 : Thing} {b N : Nat} {bs : List Bool} (h : Sep w0 L w A1 (BAt b N bs)) (s1 : St A1) (hl : bs.length = N) (j : Nat) (hj : j < N) (hf : bs[j]? = some false) :
    w.cell? ⟨b, j, none⟩ = some (.bool false) ∧ w.frozen? ⟨b, j, none⟩ = false ∧ Sep w0 L (w.setCell ⟨b, j, none⟩ (.bool true)) A1 (BAt b N (bs.set j true)) := by
  have hjl : j < bs.length := by omega
  have hbj : bs[j] = false := by rw [List.getElem?_eq_getElem hjl] at hf; exact Option.some.inj hf
  have hc : ∀ O, BAt b N bs O w → w.cell? ⟨b, j, none⟩ = some (.bool false) ∧ w.frozen? ⟨b, j, none⟩ = false ∧ BAt b N (bs.set j true) O (w.setCell ⟨b, j, none⟩ (.bool true)) ∧ O b := fun O h2 => by
    unfold BAt at *
    obtain ⟨b', e1, _, e3⟩ := h2.elem wideB hjl hl
    cases e1
    have hcc := e3 0 (.bool false) (by rw [hbj]; rfl)
    rw [Nat.add_zero, Nat.mul_one] at hcc
    refine ⟨hcc, (h2.live j (by omega)).2, ?_, h2.lt.2⟩
    have := h2.setElem wideB hl j hj true
    rw [Nat.mul_one] at this
    exact this
  obtain ⟨O1, O2, h1, h2, _⟩ := h.out
  refine ⟨(hc O2 h2).1, (hc O2 h2).2.1, step2 h s1 (fun O h2 => ⟨?_, Stay.setCell _ _ _ (hc O h2).2.2.2⟩)⟩
  have h3 := (hc O h2).2.2.1
  unfold BAt at *
  exact h3.stay (Nat.le_refl _) (fun _ _ => rfl) (fun _ e => .inl e)

set_option maxRecDepth 100000 in
set_option maxHeartbeats 4000000 in
theorem walk_b (a0 : Int) (a1 : Option Addr) (b1 off1 cap1 n1 : Nat) (zs : List Int) (w : World) (h0 : -9223372036854775808 ≤ a0 ∧ a0 ≤ 9223372036854775807) (hn1 : zs.length = n1) (hx1 : n1 ≤ maxLen) (hI : Ints w .i64 a1 b1 off1 zs) (hz : ∀ z ∈ zs, -9223372036854775808 ≤ z ∧ z ≤ 9223372036854775807) :
    Calls Try.prog 4 #[.int .i64 a0, .slice a1 n1 cap1] w fun e w' => e = .returned (.bool true) ∧ Below w.heap.size w w' := by
  obtain ⟨ti, hi1, hi2, hi3, hi4⟩ := boolRow
  obtain ⟨N, hN⟩ : ∃ N, keepN a0 % 51 = N := ⟨_, rfl⟩
  have hN2 : N < 51 := by rw [← hN]; exact Nat.mod_lt _ (by omega)
  have HN : Hid _ := hN
  have hx2 : n1 ≤ 9223372036854775807 := by unfold maxLen at hx1; omega
  have HN1 : Hid _ := hn1
  have HI : Hid _ := hI
  have HZ : Hid _ := hz
  clear hN hn1 hI hz hx1
  go_enter Try.func4, Try.ntmps4
  go_wp2_with fail
  refine (examples_val _).mono ?_
  rintro e w1 ⟨rfl, b1'⟩
  have B1 : Hid _ := b1'
  clear b1'
  go_wp2_with fail
  refine (s_new (w0 := w) B1.out).mono ?_
  rintro e w2 ⟨p, rfl, h2⟩
  have H2 : Hid (Sep w [] w2 (fun O w => MAt O w p []) Non) := h2
  clear h2 B1
  go_wp2_with fail
  refine (pick_val a0 51 N _ h0 (by omega) HN.out).mono ?_
  rintro e w3 ⟨rfl, rfl⟩
  go_wp2
  go_loopw [7] (fun v wr => ∃ k : Nat, k ≤ N ∧ v = .int .i64 k ∧ Sep w [] wr (fun O w => MAt O w p (nums ⟨#[]⟩ k)) Non) (fun v _ => N - (intOf v).toNat)
  case atStart => exact ⟨0, by omega, rfl, H2.out⟩
  case round =>
    obtain ⟨k, hk, rfl, hS⟩ := hrel
    have HS : Hid (Sep w [] wr (fun O w => MAt O w p (nums ⟨#[]⟩ k)) Non) := hS
    clear hS H2
    by_cases hlt : k < N
    · have CS : Hid (Calls Try.prog 10 #[.pointer (some ⟨p, 0, none⟩), .agg #[.int .i64 (k : Int), .string ⟨#[]⟩]] wr fun e w' => e = .returned (.int .i64 0) ∧ Sep w [] w' (fun O w => MAt O w p (nums ⟨#[]⟩ (k + 1))) Non) :=
        s_send HS.out stNon (k : Int) ⟨#[]⟩ (by rw [nums_len]; omega) (by unfold maxLen; decide) 0 (nums_send _ k (by omega) (by decide)).1 (nums_send _ k (by omega) (by decide)).2
      go_wp2_with (refine CS.out.mono ?_; rintro e w4 ⟨rfl, h4⟩; have H4 : Hid _ := h4; clear h4)
      go_roundw
      case rel => exact ⟨k + 1, by omega, by go_num, H4.out⟩
      case measure => simp [intOf]; omega
    · obtain rfl : k = N := by omega
      have hgd : decide ((k : Int) < (k : Int)) = false := decide_eq_false (by omega)
      clear hlt
      by_cases h50 : k = 50
      focus
        have hgz : ((k : Int) == 50) = true := by rw [h50]; rfl
        have CS : Hid (Calls Try.prog 10 #[.pointer (some ⟨p, 0, none⟩), .agg #[.int .i64 0, .string ⟨#[]⟩]] wr fun e w' => e = .returned (.int .i64 4) ∧ Sep w [] w' (fun O w => MAt O w p (nums ⟨#[]⟩ k)) Non) :=
          s_send HS.out stNon 0 ⟨#[]⟩ (by rw [nums_len]; omega) (by unfold maxLen; decide) 4 (by unfold sendE; rw [if_pos (.inl (by rw [nums_len]; omega))]) (by unfold sendL; rw [if_pos (.inl (by rw [nums_len]; omega))])
        clear h50
        go_wp2_with fail
        refine CS.out.mono ?_
        rintro e w4 ⟨rfl, h4⟩
        have H4 : Hid (Sep w [] w4 (fun O w => MAt O w p (nums ⟨#[]⟩ k)) Non) := h4
        clear h4 CS HS
      rotate_left
      focus
        have hgz : ((k : Int) == 50) = false := beq_eq_false_iff_ne.2 (by omega)
        have H4 : Hid (Sep w [] wr (fun O w => MAt O w p (nums ⟨#[]⟩ k)) Non) := HS.out
        clear HS h50
        generalize wr = w4 at *
      all_goals
        go_wp2_with (at_make; refine wpList_make_full _ rfl _ _ 47 rfl w4.heap.size 4 ti (.bool false) 1 Try.underlying47 hi1 hi2 hi3 .i64 .i64 k k k rfl rfl rfl rfl (by rw [hi4]; omega) (by unfold maxLen; omega) (Nat.le_refl _) ?_; intro w5 hown0 hgrow0)
        have HR : Hid (Sep w [] w5 (fun O w => MAt O w p (nums ⟨#[]⟩ k)) (BAt w4.heap.size k (List.replicate k false))) := by
          refine addRow H4.out (stM _ _) (grown_bel hgrow0) ?_
          obtain ⟨g, hg⟩ := cel_of_own hown0
          rw [made_bools] at hg
          unfold BAt
          cases hg with
          | nil h1 h2 h3 => cases h1
          | row g cap h1 hl h2 h3 h4 h5 h6 h7 =>
            cases h1
            exact .row _ _ rfl hl ⟨h2, h3⟩ h3 h4 h5 h6 h7
        clear hown0 hgrow0 H4
        generalize w4.heap.size = b at *
        go_loopw [9, 10, 11, 12] (fun v9 _ _ _ wr => ∃ (i : Nat) (xs : ML) (bs : List Bool), i ≤ k ∧ v9 = .int .i64 i ∧ xs.length + i = k ∧ Left k xs bs ∧ Sep w [] wr (fun O w => MAt O w p xs) (BAt b k bs)) (fun v9 _ _ _ _ => k - (intOf v9).toNat)
        case atStart => exact ⟨0, nums ⟨#[]⟩ k, _, by omega, rfl, by rw [nums_len]; omega, left_start k _, HR.out⟩
        case round =>
          obtain ⟨i, xs, bs, hi, rfl, hxl, hLf, hS⟩ := hrel
          have HS2 : Hid (Sep w [] wr (fun O w => MAt O w p xs) (BAt b k bs)) := hS
          have HLF : Hid _ := hLf
          have HXL : Hid _ := hxl
          clear hS hLf hxl HR
          by_cases hlt : i < k
          · obtain ⟨r, hr⟩ : ∃ r, k - i = r := ⟨_, rfl⟩
            have hrz : (k : Int) - (i : Int) = (r : Int) := by omega
            have hrp : 0 < r := by omega
            have hrl : xs.length = r := by have := HXL.out; omega
            have HRL : Hid _ := hrl
            clear hr hrl
            have hst := run_store_str
            have next : Hid (∀ Q : Nat, Q < r → ∃ (j : Nat) (d : ByteArray), j < k ∧ Calls Try.prog 12 #[.pointer (some ⟨p, 0, none⟩), .int .i64 (Q : Int)] wr fun e w' => e = .returned (.tuple #[.agg #[.int .i64 (j : Int), .string d], .bool true]) ∧
                (w'.alloc (.cells #[.int .i64 (j : Int), .string d] 32)).cell? ⟨b, j, none⟩ = some (.bool false) ∧ (w'.alloc (.cells #[.int .i64 (j : Int), .string d] 32)).frozen? ⟨b, j, none⟩ = false ∧
                Hid (∃ ys cs, ys.length + (i + 1) = k ∧ Left k ys cs ∧ Sep w [] ((w'.alloc (.cells #[.int .i64 (j : Int), .string d] 32)).setCell ⟨b, j, none⟩ (.bool true)) (fun O w => MAt O w p ys) (BAt b k cs))) := fun Q hQ => by
              have hQl : Q < xs.length := by rw [HRL.out]; exact hQ
              obtain ⟨j, hj, hjk, hjf⟩ := HLF.out.at_ xs[Q] (List.getElem_mem hQl)
              refine ⟨j, xs[Q].1.d, hjk, (take_at HS2.out (stB _ _ _) Q hQl (by rw [HRL.out]; omega) (j : Int) xs[Q].1.d (by rw [← hj])).mono fun e w' ⟨e1, e2⟩ => ?_⟩
              obtain ⟨m1, m2, m3⟩ := meet (e2.below (stM _ _) (stB _ _ _) ((Below.refl _ w').alloc (Nat.le_refl _) (.cells #[.int .i64 (j : Int), .string xs[Q].1.d] 32))) (stM _ _) HLF.out.len j hjk hjf
              exact ⟨e1, m1, m2, _, _, by rw [List.length_eraseIdx, if_pos hQl]; have := HXL.out; omega, left_take HLF.out Q hQl j hj, m3⟩
            by_cases hio : i < n1
            · have hi3 : i < zs.length := by rw [HN1.out]; exact hio
              obtain rfl := HI.out.addr (by omega)
              have hzc : wr.cell? ⟨b1, off1 + i, none⟩ = some (.int .i64 zs[i]) := bel_cell HS2.out.bel (HI.out.cell i hi3)
              have hzb := HZ.out _ (List.getElem_mem hi3)
              generalize zs[i] = z at *
              obtain ⟨Q, hQ⟩ : ∃ Q, keepN z % r = Q := ⟨_, rfl⟩
              have hQr : Q < r := by rw [← hQ]; exact Nat.mod_lt _ hrp
              have HQ : Hid _ := hQ
              obtain ⟨j, d, hjk, hcall⟩ := next.out Q hQr
              have HC : Hid _ := fun (_ : Unit) => hcall
              have hj0 : decide ((j : Int) < 0) = false := decide_eq_false (by omega)
              have hj1 : decide ((k : Int) ≤ (j : Int)) = false := decide_eq_false (by omega)
              clear hcall next hQ hi3
              go_wp2_with fail
              refine (pick_val z r Q _ hzb (by omega) HQ.out).mono ?_
              rintro e w6 ⟨rfl, rfl⟩
              go_wp2_with fail
              refine (HC.out ()).mono ?_
              rintro e w7 ⟨rfl, m1, m2, hX⟩
              clear HC
              go_wp2
              go_roundw
              case rel =>
                obtain ⟨ys, cs, y1, y2, y3⟩ := hX.out
                exact ⟨i + 1, ys, cs, by omega, by go_num, y1, y2, y3⟩
              case measure => simp [intOf]; omega
            · obtain ⟨j, d, hjk, hcall⟩ := next.out 0 hrp
              have HC : Hid _ := fun (_ : Unit) => hcall
              have hj0 : decide ((j : Int) < 0) = false := decide_eq_false (by omega)
              have hj1 : decide ((k : Int) ≤ (j : Int)) = false := decide_eq_false (by omega)
              have hge : n1 ≤ i := by omega
              clear hcall next hio
              go_wp2_with fail
              refine (HC.out ()).mono ?_
              rintro e w7 ⟨rfl, m1, m2, hX⟩
              clear HC
              go_wp2
              go_roundw
              case rel =>
                obtain ⟨ys, cs, y1, y2, y3⟩ := hX.out
                exact ⟨i + 1, ys, cs, by omega, by go_num, y1, y2, y3⟩
              case measure => simp [intOf]; omega
          · obtain rfl : i = k := by omega
            have hx0 : xs = [] := List.length_eq_zero_iff.1 (by have := HXL.out; omega)
            subst hx0
            clear hlt
            have hst := run_store_str
            go_wp2_with fail
            refine (s_take HS2.out (stB _ _ _) 0 (by simp) none rfl (ys := []) rfl).mono ?_
            rintro e w6 ⟨rfl, h6⟩
            have H6 : Hid _ := h6
            clear h6
            simp only [Option.getD_none, Option.isSome_none, zeroM]
            go_wp2_with fail
            have H7 := H6.out.below (stM _ _) (stB _ _ _) ((Below.refl _ w6).alloc (Nat.le_refl _) (.cells #[.int .i64 0, .string ⟨#[]⟩] 32))
            refine (s_len H7 0 rfl).mono ?_
            rintro e w7 ⟨rfl, rfl⟩
            have H8 : Hid _ := H7.bel
            clear H7
            go_wp2
            go_ret
            exact ⟨rfl, H8.out⟩

theorem walk (a0 : Int) (a1 : Option Addr) (b1 off1 cap1 : Nat) (zs : List Int) (w : World) (w0 : (Lit.int .i64 a0).wf = true) (w1 : Ints w .i64 a1 b1 off1 zs ∧ zs.length ≤ maxLen ∧ ∀ n ∈ zs, (Lit.int .i64 n).wf = true) :
    Calls Try.prog 4 #[.int .i64 a0, .slice a1 zs.length cap1] w fun e w' => e = .returned (.bool true) ∧ Below w.heap.size w w' :=
  walk_b a0 a1 b1 off1 cap1 _ zs w (bounds_i64 w0) rfl w1.2.1 w1.1 (fun z hz => bounds_i64 (w1.2.2 z hz))

set_option maxRecDepth 100000 in
theorem lifted (os : Os) (started : os.Started) (H : Type) (enc : TypeId × Value → H) :
    ReturnsInHanded {} Try.checked os 4 .any (Rows.mailTakesSpec.pre6 enc Try.prog Try.f4 Rows.mailTakesRow.domain false) (Rows.mailTakesSpec.post enc Try.prog Try.f4 false true false false) := by
  refine returnsInHanded_of_change (C := Try.checked) own started (by kernel_rfl) Try.func4
    (ChangeSpec.witness6 (enc := enc) (C := Try.checked) false ⟨#[], #[.int .i64 0, .slice none 0 0], []⟩ 8 (by kernel_rfl) (by kernel_rfl) (by kernel_rfl) (by kernel_rfl)) ?_
  intro W base args ds gs before hval0 hW hcnd _
  have hval : ∀ (j : Nat) t v, Try.f4.params[j]? = some t → args[j]? = some v → Value.okWide Try.prog W .any base t v := hval0
  have hW' := hW
  obtain ⟨p, q, hA0, hV, rfl, hfz, hnd⟩ := hW
  have hA : DataW.TrodAll enc Try.prog W 0 (fun _ => true) true Try.f4.params.toList args.toList ds p := hA0
  rw [Try.params4] at hA hval
  obtain ⟨v0, vs0, d0, ds0, p0, q0, hargs, rfl, rfl, h0, r0⟩ := trodAll_cons hA
  obtain ⟨v1, vs1, d1, ds1, p1, q1, rfl, rfl, rfl, h1, r1⟩ := trodAll_cons r0
  obtain ⟨rfl, rfl, rfl⟩ := trodAll_nil r1
  obtain rfl : args = #[v0, v1] := by cases args; simp_all
  obtain ⟨rfl, rfl⟩ := trodVars_none hV
  obtain ⟨a0, rfl, rfl, rfl, w0⟩ := open_int Try.underlying3 (hval 0 3 v0 rfl rfl) h0
  obtain ⟨a1, len1, cap1, rfl⟩ := okWide_slice Try.underlying28 (hval 1 28 v1 rfl rfl)
  have k1 := h1
  have lt1 : ∀ x ∈ p1, x.block < W.heap.size := by obtain ⟨m, hm⟩ := k1; exact DataW.trod_lt m _ _ _ hm
  obtain ⟨b1, off1, ss1, rfl, w1⟩ := open_nums Try.underlying28 Try.underlying3 (by kernel_rfl) h1
  clear hA0 hval0
  refine (walk a0 a1 b1 off1 cap1 ss1 W w0 w1).mono fun e W' ⟨he, bel⟩ => ?_
  subst he
  exact ⟨_, rfl, _, _, _, [], _, [], hW', trodAll_mk1 (shut_bool Try.underlying4 _), (trodAll_cons_mk (shut_int Try.underlying3 w0) (trodAll_cons_mk (Below.trod laidOut (by kernel_rfl) (of_decide_eq_true (by kernel_rfl)) k1 bel lt1) trodAll_mk0)), rfl, bel.frame _, fun h => by cases h⟩

theorem over : Rows.mailTakesRow.holds Try.pinned (OpenSpec.ofChange Rows.mailTakesSpec) :=
  OpenClaim.holds_of_wide 4 Try.f4 rfl rfl rfl rfl rfl rfl rfl ⟨rfl, rfl, rfl, rfl, rfl⟩ rfl rfl rfl rfl rfl (by kernel_rfl) Try.func4 (by kernel_rfl)
    (of_decide_eq_true (by kernel_rfl)) (by unfold Func.isWrapper; first | (rw [if_pos (by decide +kernel)]; kernel_rfl) | (rw [if_neg (by decide +kernel)]; exact ⟨rfl, rfl⟩))
    (fun os started H enc _ => lifted os started H enc)
end Go.Proofs.Ytgjbafpjllfdeaa.mailTakes

namespace Go.Proofs.Ytgjbafpjllfdeaa
/-- The statement. -/
theorem mailTakes_holds : Rows.MailTakesSaid := mailTakes.over
#print axioms mailTakes_holds
end Go.Proofs.Ytgjbafpjllfdeaa
