/- WireLists: for every list of strings and every string: the statement's function returns true; nothing that was there is changed. No condition. -/
import Derived.Test.YtoppdclmahelmaaWireOpen
import Derived.Test.YtoppdclmahelmaaWireListR
namespace Go.Proofs.Ytoppdclmahelmaa.wireLists
open Go.ChangeShapes Go.WideShapes Go.ChangeAt Go.RowKit
open Go.ChangeMaps (open_string shut_string)
set_option linter.unusedVariables false

theorem own : ownKnob Try.prog.godebug = none := by kernel_rfl

/-- A row of strings of the call's own, as a slice of strings. -/
theorem own_strs {w : World} {base : Nat} {v : Value} {ss : List ByteArray} (h : w.ownsRow base 9 1 v ss.length (ss.map Value.string)) (hl : ss.length ≤ 1000) (hx : ∀ x ∈ ss, x.size ≤ maxLen) :
    ∃ a b cap, v = .slice a ss.length cap ∧ Strs w a b 0 ss ∧ (0 < ss.length → a = some ⟨b, 0, none⟩ ∧ base ≤ b) := by
  rcases h.2 with ⟨rfl, h0⟩ | ⟨g, cap, cur, rfl, hb, _⟩
  · refine ⟨none, 0, 0, by rw [h0], ⟨fun hp => by omega, fun j hj => by omega, hx, by unfold maxLen; omega⟩, fun hp => by omega⟩
  · refine ⟨_, g, cap, rfl, ⟨fun _ => rfl, fun j hj => ?_, hx, by unfold maxLen; omega⟩, fun _ => ⟨rfl, hb⟩⟩
    rw [Nat.zero_add, h.cellAt j (by omega)]
    simp [hj]

theorem own_below {w w' : World} {base n : Nat} {v : Value} {xs : List Value} (h : w.ownsRow base 9 1 v n xs) (b : Below w.heap.size w w') : w'.ownsRow base 9 1 v n xs := by
  refine h.kept (row := none) ⟨b.os, b.tape, b.output, b.size, fun k hk _ => b.block k hk⟩ ?_
  cases h : v.ownBlock with
  | none => exact .inl rfl
  | some x => exact .inr (by simp)

theorem split_both (s : ByteArray) (hs : s.size ≤ maxLen) : ∃ (ss : List ByteArray) (e : Int) (ok : Bool),
    (∀ w, Calls Try.prog 26 #[.string s] w fun x w' => (∃ v, x = .returned (.tuple #[v, .int .i64 e]) ∧ w'.ownsRow w.heap.size 9 1 v ss.length (ss.map Value.string)) ∧ Below w.heap.size w w') ∧
    (∀ w, Calls Try.prog 25 #[.string s] w fun x w' => (∃ v, x = .returned (.tuple #[v, .bool ok]) ∧ w'.ownsRow w.heap.size 9 1 v ss.length (ss.map Value.string)) ∧ Below w.heap.size w w') ∧
    (ok = true ∧ e = 0 ∨ ok = false ∧ e = 2) ∧ ss.length ≤ 1000 ∧ ∀ x ∈ ss, x.size ≤ maxLen := by
  cases h : splitL s with
  | none =>
    refine ⟨[], 2, false, fun w => (split_any s w hs).mono fun x w' hx => ?_, fun w => (refSplit_any s w hs).mono fun x w' hx => ?_, .inr ⟨rfl, rfl⟩, by simp, by simp⟩
    all_goals
      obtain ⟨h1, h2⟩ := hx
      rw [h] at h1
      exact ⟨⟨_, h1, World.ownsRow_nil _ _ _ _⟩, h2⟩
  | some ss =>
    by_cases hok : ss.length ≤ 1000 ∧ ∀ x ∈ ss, x.size ≤ maxLen
    · refine ⟨ss, 0, true, fun w => (split_any s w hs).mono fun x w' hx => ?_, fun w => (refSplit_any s w hs).mono fun x w' hx => ?_, .inl ⟨rfl, rfl⟩, hok.1, hok.2⟩
      all_goals
        obtain ⟨h1, h2⟩ := hx
        rw [h] at h1
        obtain ⟨v, e1, e2, _⟩ := h1
        exact ⟨⟨v, e1, e2⟩, h2⟩
    · exfalso
      apply hok
      have hsplit : ∀ (n : Nat) (r : ByteArray) (l : List ByteArray), r.size ≤ maxLen → takeMany n r = some l → l.length = n ∧ ∀ x ∈ l, x.size ≤ maxLen := by
        intro n
        induction n with
        | zero => intro r l _ hl; rw [takeMany] at hl; split at hl
                  · cases hl; exact ⟨rfl, by simp⟩
                  · cases hl
        | succ n ih =>
          intro r l hr hl
          rw [takeMany] at hl
          cases hT : takeT r with
          | none => rw [hT] at hl; cases hl
          | some p =>
            obtain ⟨t, q⟩ := p
            rw [hT] at hl
            simp only [Option.map_eq_some_iff] at hl
            obtain ⟨m, hm, rfl⟩ := hl
            obtain ⟨g1, g2⟩ := ih q m (Nat.le_trans (takeT_size hT).1 hr) hm
            refine ⟨by simp [g1], fun x hx => ?_⟩
            rcases List.mem_cons.1 hx with rfl | hx
            · exact Nat.le_trans (takeT_size hT).2 hr
            · exact g2 x hx
      unfold splitL at h
      cases hC : takeC 1000 s with
      | none => rw [hC] at h; cases h
      | some p =>
        obtain ⟨n, r⟩ := p
        rw [hC] at h
        obtain ⟨_, _, _, _, _, g4, g5⟩ := takeC_yes hC
        obtain ⟨g1, g2⟩ := hsplit n r ss (Nat.le_trans g5 hs) h
        exact ⟨by omega, g2⟩

theorem join_both (ss : List ByteArray) : ∃ (A : ByteArray) (e : Int) (ok : Bool), joinV ss = .tuple #[.string A, .int .i64 e] ∧ refJoinV ss = .tuple #[.string A, .bool ok] ∧ (ok = true ∧ e = 0 ∨ ok = false ∧ e = 4) := by
  cases h : joinOk ss with
  | true => exact ⟨_, 0, true, joinV_yes h, refJoinV_yes h, .inl ⟨rfl, rfl⟩⟩
  | false => exact ⟨_, 4, false, joinV_no h, refJoinV_no h, .inr ⟨rfl, rfl⟩⟩

theorem join_val (a : Option Addr) (b off cap : Nat) (ss : List ByteArray) (V : Value) (w : World) (hS : Strs w a b off ss) (hV : joinV ss = V) :
    Calls Try.prog 23 #[.slice a ss.length cap] w fun e w' => e = .returned V ∧ Below w.heap.size w w' := by
  subst hV; exact join_any a b off cap ss w hS
theorem refJoin_val (a : Option Addr) (b off cap : Nat) (ss : List ByteArray) (V : Value) (w : World) (hS : Strs w a b off ss) (hV : refJoinV ss = V) :
    Calls Try.prog 24 #[.slice a ss.length cap] w fun e w' => e = .returned V ∧ Below w.heap.size w w' := by
  subst hV; exact refJoin_any a b off cap ss w hS

set_option maxRecDepth 100000 in
set_option maxHeartbeats 2000000 in
theorem walk (a0 : Option Addr) (b0 off0 cap0 : Nat) (ss0 : List ByteArray) (a1 : ByteArray) (w : World) (S0 : Strs w a0 b0 off0 ss0) (h1 : a1.size ≤ maxLen) :
    Calls Try.prog 6 #[.slice a0 ss0.length cap0, .string a1] w fun e w' => e = .returned (.bool true) ∧ Below w.heap.size w w' := by
  obtain ⟨A, e1, ok1, c1, c2, hx⟩ := join_both ss0
  obtain ⟨ss, e2, ok2, c3, c4, hy, hs1, hs2⟩ := split_both a1 h1
  have C1 : Hid _ := c1
  have C2 : Hid _ := c2
  have C3 : Hid _ := c3
  have C4 : Hid _ := c4
  have HX : Hid (∀ x ∈ ss, x.size ≤ maxLen) := hs2
  have HS0 : Hid (Strs w a0 b0 off0 ss0) := S0
  clear c1 c2 c3 c4 h1 hs2 S0
  rcases hx with ⟨rfl, rfl⟩ | ⟨rfl, rfl⟩ <;> rcases hy with ⟨rfl, rfl⟩ | ⟨rfl, rfl⟩
  all_goals
    go_enter Try.func6, Try.ntmps6
    go_wp2_with fail
    refine (examples_any _).mono ?_
    rintro e w1 ⟨rfl, b1⟩
    go_wp2_with fail
    refine (join_val a0 b0 off0 cap0 ss0 _ _ (HS0.out.below b1) C1.out).mono ?_
    rintro e w2 ⟨rfl, b2⟩
    have b12 := bel_trans b1 b2
    go_wp2_with fail
    refine (refJoin_val a0 b0 off0 cap0 ss0 _ _ (HS0.out.below b12) C2.out).mono ?_
    rintro e w3 ⟨rfl, b3⟩
    have b13 := bel_trans b12 b3
    clear b1 b2 b3 b12
    go_wp2_with fail
    refine (C4.out _).mono ?_
    rintro e w4 ⟨⟨v4, rfl, o4⟩, b4⟩
    have b14 := bel_trans b13 b4
    obtain ⟨aw, bw, cw, rfl, Sw, hr⟩ := own_strs o4 hs1 HX.out
    clear hr b13 b4 o4 C1 C2 C4 HS0
    go_wp2_with fail
    go_loopw [12] (fun c wr => ∃ k : Nat, k ≤ 2 ∧ c = .int .i64 k ∧ Strs wr aw bw 0 ss ∧ Below w.heap.size w wr) (fun c _ => 2 - (intOf c).toNat)
    case atStart => exact ⟨0, by omega, rfl, Sw, b14⟩
    case round =>
      obtain ⟨k, hk, rfl, Swr, hbel⟩ := hrel
      rename World => wo
      have hsz := hbel.size
      clear Sw b14
      by_cases hlt : k < 2
      · go_wp2_with fail
        refine (C3.out _).mono ?_
        rintro e w5 ⟨⟨v5, rfl, o5⟩, b5⟩
        obtain ⟨ag, bg, cg, rfl, Sg, hg⟩ := own_strs o5 hs1 HX.out
        have HG : Hid (0 < ss.length → ag = some ⟨bg, 0, none⟩ ∧ wo.heap.size ≤ bg) := hg
        clear hg
        go_wp2_with fail
        refine (texts_same ag aw bg 0 cg bw 0 cw ss _ Sg (Swr.below b5)).mono ?_
        rintro e w6 ⟨rfl, b6⟩
        have o6 := own_below o5 b6
        have b56 := bel_trans b5 b6
        clear o5 b5 b6 Sg
        go_wp2_with fail
        go_loopw [16] (fun c wq => ∃ (j : Nat) (xs : List Value), j ≤ ss.length ∧ c = .int .i64 j ∧ wq.ownsRow wo.heap.size 9 1 (.slice ag ss.length cg) ss.length xs ∧ Below wo.heap.size wo wq) (fun c _ => ss.length - (intOf c).toNat)
        case atStart => exact ⟨0, _, by omega, rfl, o6, b56⟩
        case round =>
          obtain ⟨j, xs, hj, rfl, oq, bq⟩ := hrel
          have hszq := bq.size
          clear o6 b56
          by_cases hjl : j < ss.length
          · obtain ⟨rfl, hbg⟩ := HG.out (by omega)
            have hfz := oq.frozenAt j
            have hlen := oq.1
            have hcl : ∃ u, wr.cell? ⟨bg, j, none⟩ = some u := ⟨_, (oq.cellAt j (by omega)).trans (List.getElem?_eq_getElem (by omega))⟩
            obtain ⟨u, hcl⟩ := hcl
            obtain ⟨hst, hgr⟩ := oq.stored j (.string ⟨#[63]⟩)
            have bq2 := bq.grown hgr hszq (by intro k hk; simp at hk; omega)
            clear oq bq hgr hlen HG
            go_wp2
            go_roundw
            case rel => exact ⟨j + 1, _, by omega, by go_num, hst, bq2⟩
            case measure => simp [intOf]; omega
          · have Sq := Swr.below bq
            have bb := bel_trans hbel bq
            clear oq bq hbel Swr HG
            go_wp2
            go_roundw
            case rel => exact ⟨k + 1, by omega, by go_num, Sq, bb⟩
            case measure => simp [intOf]; omega
      · go_wp2
        go_ret
        exact ⟨rfl, hbel⟩

set_option maxRecDepth 100000 in
theorem lifted (os : Os) (started : os.Started) (H : Type) (enc : TypeId × Value → H) :
    ReturnsInHanded {} Try.checked os 6 .any (Rows.wireListsSpec.pre6 enc Try.prog Try.f6 Rows.wireListsRow.domain false) (Rows.wireListsSpec.post enc Try.prog Try.f6 false true false false) := by
  refine returnsInHanded_of_change (C := Try.checked) own started (by kernel_rfl) Try.func6
    (ChangeSpec.witness6 (enc := enc) (C := Try.checked) false ⟨#[], #[.slice none 0 0, .string ByteArray.empty], []⟩ 8 (by kernel_rfl) (by kernel_rfl) (by kernel_rfl) (by kernel_rfl)) ?_
  intro W base args ds gs before hval0 hW hcnd _
  have hval : ∀ (j : Nat) t v, Try.f6.params[j]? = some t → args[j]? = some v → Value.okWide Try.prog W .any base t v := hval0
  have hW' := hW
  obtain ⟨p, q, hA0, hV, rfl, hfz, hnd⟩ := hW
  have hA : DataW.TrodAll enc Try.prog W 0 (fun _ => true) true Try.f6.params.toList args.toList ds p := hA0
  rw [Try.params6] at hA hval
  obtain ⟨v0, vs0, d0, ds0, p0, q0, hargs, rfl, rfl, h0, r0⟩ := trodAll_cons hA
  obtain ⟨v1, vs1, d1, ds1, p1, q1, rfl, rfl, rfl, h1, r1⟩ := trodAll_cons r0
  obtain ⟨rfl, rfl, rfl⟩ := trodAll_nil r1
  obtain rfl : args = #[v0, v1] := by cases args; simp_all
  obtain ⟨rfl, rfl⟩ := trodVars_none hV
  obtain ⟨a0, len0, cap0, rfl⟩ := okWide_slice Try.underlying47 (hval 0 47 v0 rfl rfl)
  have k0 := h0
  have lt0 : ∀ x ∈ p0, x.block < W.heap.size := by obtain ⟨m, hm⟩ := k0; exact DataW.trod_lt m _ _ _ hm
  obtain ⟨b0, off0, ss0, rfl, w0⟩ := open_strs Try.underlying47 Try.underlying9 (by kernel_rfl) h0
  obtain ⟨a1, rfl, rfl, rfl, w1⟩ := open_string Try.underlying9 (hval 1 9 v1 rfl rfl) h1
  clear hA0 hval0
  refine (walk a0 b0 off0 cap0 ss0 a1 W w0 w1).mono fun e W' ⟨he, bel⟩ => ?_
  subst he
  exact ⟨_, rfl, _, _, _, [], _, [], hW', trodAll_mk1 (shut_bool Try.underlying4 _), (trodAll_cons_mk (Below.trod laidOut (by kernel_rfl) (of_decide_eq_true (by kernel_rfl)) k0 bel lt0) (trodAll_cons_mk (shut_string Try.underlying9 w1) trodAll_mk0)), rfl, bel.frame _, fun h => by cases h⟩

theorem over : Rows.wireListsRow.holds Try.pinned (OpenSpec.ofChange Rows.wireListsSpec) :=
  OpenClaim.holds_of_wide 6 Try.f6 rfl rfl rfl rfl rfl rfl rfl ⟨rfl, rfl, rfl, rfl, rfl⟩ rfl rfl rfl rfl rfl (by kernel_rfl) Try.func6 (by kernel_rfl)
    (of_decide_eq_true (by kernel_rfl)) (by unfold Func.isWrapper; first | (rw [if_pos (by decide +kernel)]; kernel_rfl) | (rw [if_neg (by decide +kernel)]; exact ⟨rfl, rfl⟩))
    (fun os started H enc _ => lifted os started H enc)
end Go.Proofs.Ytoppdclmahelmaa.wireLists

namespace Go.Proofs.Ytoppdclmahelmaa
/-- The statement. -/
theorem wireLists_holds : Rows.WireListsSaid := wireLists.over
#print axioms wireLists_holds
end Go.Proofs.Ytoppdclmahelmaa
