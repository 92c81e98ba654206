/- Part 33 of the proof: JrnG2, JrnV, JrnE, JrnX, JrnG3, JrnG4, JrnK. -/
import Derived.Test.YtfmhmokbbkliaaaGreatB28
import Derived.Test.YtfmhmokbbkliaaaGreatB29
import Derived.Test.YtfmhmokbbkliaaaGreatB31
import Derived.Test.YtfmhmokbbkliaaaGreatB32
import Derived.BigRegion
import Derived.Deep.DeepCutAuto
import Derived.Defers
import Derived.Recover

/- The contracts of slices.Equal at texts, and of journal.takeAnswer. -/
namespace Go.Proofs.YtfmhmokbbkliaaaGreat.Jrn
open Go.RowKit Go.Proofs.YtfmhmokbbkliaaaGreat Go.Proofs.YtfmhmokbbkliaaaGreat.Wir Go.Proofs.YtfmhmokbbkliaaaGreat.Lgg Go.Proofs.YtfmhmokbbkliaaaGreat.Sep
open Go.Proofs.YtfmhmokbbkliaaaGreat.Smm (bytes_ne)
set_option linter.unusedVariables false

theorem take_eq_stepS {ss tt : List ByteArray} {k : Nat} (hs : k < ss.length) (ht : k < tt.length) (h : ss.take k = tt.take k) (e : ss[k] = tt[k]) : ss.take (k + 1) = tt.take (k + 1) := by
  rw [List.take_succ_eq_append_getElem hs, List.take_succ_eq_append_getElem ht, h, e]
set_option maxRecDepth 100000 in
set_option maxHeartbeats 1000000 in
theorem equalS_val (a a' : Option Addr) (b off cap b' off' cap' n m : Nat) (ss tt : List ByteArray) (v : Bool) (w : World) (hS : Strs w a b off ss) (hT : Strs w a' b' off' tt) (hn : ss.length = n) (hm : tt.length = m) (hv : decide (ss = tt) = v) :
    Calls Tryz.prog 98 #[.slice a n cap, .slice a' m cap'] w fun e w' => e = .returned (.bool v) ∧ Below w.heap.size w w' := by
  have hml := hS.len
  unfold maxLen at hml
  by_cases hnm : n = m
  case neg =>
    have hvf : v = false := by
      rw [← hv, decide_eq_false_iff_not]
      intro e; subst e; exact hnm (hn.symm.trans hm)
    subst hvf
    clear hS hT hn hm hv hml
    go_enter Tryz.func98, Tryz.ntmps98
    go_wp2
    go_ret
    exact ⟨rfl, Below.refl _ _⟩
  case pos =>
  subst hnm
  have HN : Hid (ss.length = n) := hn
  have HN' : Hid (tt.length = n) := hm
  have HV : Hid (decide (ss = tt) = v) := hv
  have HS : Hid (Strs w a b off ss) := hS
  have HT : Hid (Strs w a' b' off' tt) := hT
  have hnm : n ≤ 9223372036854775807 := by omega
  clear hn hm hv hS hT hml
  go_enter Tryz.func98, Tryz.ntmps98
  go_wp2
  go_loopw [13] (fun c wr => ∃ k q : Nat, k ≤ n ∧ c = .int .i64 k ∧ ss.take k = tt.take k ∧ wr = w.drewN q) (fun c _ => n - (intOf c).toNat)
  case atStart => exact ⟨0, 0, by omega, rfl, by simp, rfl⟩
  case round =>
    obtain ⟨k, q, hk, rfl, hE, hw⟩ := hrel
    have E : Hid (ss.take k = tt.take k) := hE
    have HW : Hid (wr = w.drewN q) := hw
    have hb : Below w.heap.size w wr := by rw [hw]; exact bel_dr _ _
    clear hE hw
    by_cases hlt : k < n
    · have hks : k < ss.length := by rw [HN.out]; exact hlt
      have hkt : k < tt.length := by rw [HN'.out]; exact hlt
      have ha := HS.out.addr (by omega)
      have ha' := HT.out.addr (by omega)
      subst ha
      subst ha'
      have hc1 := bel_cell hb (HS.out.cell k hks)
      have hc2 := bel_cell hb (HT.out.cell k hkt)
      have hlt' : (k : Int) < (n : Int) := by omega
      obtain ⟨x, hx⟩ : ∃ x, ss[k] = x := ⟨_, rfl⟩
      obtain ⟨y, hy⟩ : ∃ y, tt[k] = y := ⟨_, rfl⟩
      rw [hx] at hc1
      rw [hy] at hc2
      by_cases he : x = y
      · have E2 : Hid (ss.take (k + 1) = tt.take (k + 1)) := take_eq_stepS hks hkt E.out (by rw [hx, hy, he])
        subst he
        clear E hx hy hb
        go_wp2
        go_quiet (fail)
        go_wp2
        go_roundw
        case rel => exact ⟨k + 1, q + nq, by omega, by go_num, E2.out, by rw [HW.out, World.drewN_drewN]⟩
        case measure => simp [intOf]; omega
      · have HF : Hid (v = false) := by
          show _ = _
          rw [← HV.out, decide_eq_false_iff_not]
          intro e; subst e; exact he (by rw [← hx, ← hy])
        have hne := bytes_ne he
        clear E hx hy hb he
        go_wp2
        go_quiet (fail)
        go_wp2
        go_ret
        exact ⟨by rw [HF.out]; rfl, by rw [HW.out, World.drewN_drewN]; exact bel_dr _ _⟩
    · have HT2 : Hid (v = true) := by
        show _ = _
        rw [← HV.out, decide_eq_true_eq]
        have h := E.out
        rw [List.take_of_length_le (by have := HN.out; omega), List.take_of_length_le (by have := HN'.out; omega)] at h
        exact h
      clear hb
      go_wp2
      go_ret
      exact ⟨by rw [HT2.out]; rfl, by rw [HW.out]; exact bel_dr _ _⟩

theorem sjoinC_any (a : Option Addr) (b off cap n : Nat) (ss : List ByteArray) (w : World) (hS : Strs w a b off ss) (hn : ss.length = n) (hcap : n ≤ cap) (hl : n ≤ 1000) (hx : ∀ x ∈ ss, x.size ≤ 4000) :
    Calls Tryz.prog 97 #[.slice a n cap, .string ⟨#[]⟩] w fun e w' => e = .returned (.string (catL ss)) ∧ Below w.heap.size w w' := by
  subst hn
  have hj : (⟨(Lib.join (ss.map (·.data.toList)) (⟨#[]⟩ : ByteArray).data.toList).toArray⟩ : ByteArray) = catL ss := by
    show (⟨(Lib.join (ss.map (·.data.toList)) []).toArray⟩ : ByteArray) = _
    rw [join_flat]; rfl
  cases ss with
  | nil =>
    refine (strings_Join_none a cap ⟨#[]⟩ w).mono ?_
    rintro e w1 ⟨rfl, rfl⟩
    exact ⟨rfl, Below.refl _ _⟩
  | cons s r =>
    obtain rfl := hS.addr (by simp)
    have hc := cat_size (s :: r) hx
    rw [← hj] at hc ⊢
    rw [mk_size] at hc
    refine strings_Join b off cap (s :: r) ⟨#[]⟩ w (fun j x hj => ?_) (hS.lt (by simp)) (by omega) hcap (by omega)
    obtain ⟨h1, h2⟩ := List.getElem?_eq_some_iff.1 hj
    rw [hS.cell j h1, h2]

/-- What becomes of an answer's texts. -/
structure TldR (base : Nat) (ep er : Int) (es : List En) (e : Ending) (w' : World) : Prop where
  ex : ∃ a c g, e = .returned (.agg #[.int .i64 ep, .slice a es.length c, .int .i64 er]) ∧ Cel (fun q => base ≤ q) w' 2 (.slice a es.length c) es.length (rowC enC es) g
def AnsO (base : Nat) (r : Option (Lg × Int)) (e : Ending) (w' : World) : Prop := match r with
  | none => e = leftV
  | some (l, er) => TldR base l.ep er l.es e w'

set_option maxRecDepth 100000 in
set_option maxHeartbeats 1000000 in
theorem ans_none {w : World} (a : Option Addr) (c : Nat) : Calls Tryz.prog 51 #[.slice a 0 c] w fun e w' => e = leftV ∧ Below w.heap.size w w' := by
  have HF : Hid (∀ W, Calls Tryz.prog 94 #[.bool false] W fun e w' => e = leftV ∧ w' = W) := need_no
  go_enter Tryz.func51, Tryz.ntmps51
  go_wp2_with (go_at_call 94; refine (HF.out _).mono ?_; rintro e wy ⟨rfl, rfl⟩)
  exact ⟨rfl, rfl, bel_al _ _⟩

theorem strs_drop1 {w : World} {b off : Nat} {x : ByteArray} {ss : List ByteArray} (h : Strs w (some ⟨b, off, none⟩) b off (x :: ss)) : Strs w (some ⟨b, off + 1, none⟩) b (off + 1) ss := by
  refine ⟨fun _ => rfl, fun j hj => ?_, fun s hs => h.small s (by simp [hs]), by have := h.len; simp at this; omega⟩
  have h1 := h.cell (j + 1) (by simp; omega)
  rw [show off + 1 + j = off + (j + 1) by omega, h1]
  rfl

end Go.Proofs.YtfmhmokbbkliaaaGreat.Jrn

/- Plain: what a request leaves of a node and its disk. -/
namespace Go.Proofs.YtfmhmokbbkliaaaGreat.Jrn
open Go.Proofs.YtfmhmokbbkliaaaGreat Go.Proofs.YtfmhmokbbkliaaaGreat.Wir Go.Proofs.YtfmhmokbbkliaaaGreat.Lgg
set_option linter.unusedVariables false

/-! ### what an answer tells -/
def handE (ds : DS) (j : Nd) (s : ByteArray) : Int := if j.gone = true then 12 else match readQ s with | none => 2 | some r => (doQ ds j r).e
def ErrO (e : Int) : Prop := e = 0 ∨ e = 10 ∨ e = 11 ∨ e = 12
theorem stoR_e (ds : DS) (j : Nd) (r : Rq) : ErrO (doQ ds j r).e := by
  have e0 : ErrO 0 := .inl rfl
  have e10 : ErrO 10 := .inr (.inl rfl)
  have e11 : ErrO 11 := .inr (.inr (.inl rfl))
  have e12 : ErrO 12 := .inr (.inr (.inr rfl))
  have hp : ∀ ep, ErrO (promQ ds j ep).e := fun ep => by
    unfold promQ
    split
    · exact e10
    · split
      · exact e0
      · exact e12
  have hf : ∀ (ds : DS) (j : Nd) ep es, ErrO (fresh ds j ep es).e := fun ds j ep es => by
    unfold fresh
    split
    · exact e0
    · exact e12
  cases r with
  | prom ep => exact hp ep
  | acc ep es =>
    show ErrO (accQ ds j ep es).e
    unfold accQ
    split
    · exact e10
    · split
      · simp only; split
        · exact e0
        · exact e11
      · split
        · split
          · exact hf _ _ ep es
          · exact hp ep
        · exact hf _ _ ep es
  | add ep x =>
    show ErrO (addQ ds j ep x).e
    unfold addQ
    split
    · exact e10
    · split
      · exact e11
      · split
        · simp only; split
          · exact e0
          · exact e11
        · split
          · exact e0
          · exact e12
theorem hand_err {ds : DS} {j : Nd} (hj : NdOk j) (s : ByteArray) : (toldP (handQ ds j s).t).2 = handE ds j s := by
  unfold handQ handE
  split
  · rw [told_err 12 (by omega) (by omega)]
  · rename_i hg
    cases hr : readQ s with
    | none => simp only; rw [told_err 2 (by omega) (by omega)]
    | some r =>
      simp only
      have he := stoR_e ds j r
      split
      · rename_i h1
        rw [h1.1, told_log (doQ_ok hj (by simpa using hg) (readQ_ok hr)).log]
      · unfold ErrO at he
        rw [told_err _ (by omega) (by omega)]
theorem hand_log {ds : DS} {j : Nd} (hj : NdOk j) {s : ByteArray} {ep : Int} (hr : readQ s = some (.prom ep)) (h0 : handE ds j s = 0) : toldP (handQ ds j s).t = ((handQ ds j s).j.l, 0) := by
  unfold handE at h0
  split at h0
  · cases h0
  · rename_i hg
    rw [hr] at h0
    simp only at h0
    unfold handQ
    rw [if_neg hg, hr]
    simp only
    rw [if_pos ⟨h0, rfl⟩, h0, told_log (doQ_ok hj (by simpa using hg) (readQ_ok hr)).log]

/-! ### a request again; an earlier epoch -/
theorem acc_again {ds : DS} {j : Nd} {ep : Int} (es : List En) (h1 : ¬ ep < j.p) (h2 : ep = j.l.ep) : (accQ ds j ep es).j = j := by
  unfold accQ; rw [if_neg h1, if_pos h2]
theorem do_twice {ds : DS} {j : Nd} (hg : j.gone = false) (r : Rq) (hl : (doQ ds j r).j.gone = false) : (doQ (doQ ds j r).ds (doQ ds j r).j r).j = (doQ ds j r).j := by
  have hfr : ∀ (d : DS) (i : Nd) (ep : Int) (es : List En), ¬ ep < i.p → i.gone = false → (fresh d i ep es).j.gone = false → (accQ (fresh d i ep es).ds (fresh d i ep es).j ep es).j = (fresh d i ep es).j := fun d i ep es h1 h2 h3 => by
    unfold fresh at h3 ⊢
    split at h3
    · rename_i h4
      rw [if_pos h4]
      exact acc_again es h1 rfl
    · cases h3
  cases r with
  | prom ep =>
    show (promQ (promQ ds j ep).ds (promQ ds j ep).j ep).j = (promQ ds j ep).j
    change (promQ ds j ep).j.gone = false at hl
    by_cases h : ep ≤ j.p
    · have e : promQ ds j ep = ⟨10, ds, j⟩ := by unfold promQ; rw [if_pos h]
      rw [e]
      simp only
      rw [e]
    · by_cases h2 : (stoR ds prN (encL ⟨ep, []⟩)).1 = 0
      · have e : promQ ds j ep = ⟨0, (stoR ds prN (encL ⟨ep, []⟩)).2, ⟨ep, j.l, j.gone⟩⟩ := by unfold promQ; rw [if_neg h, if_pos h2]
        rw [e]
        simp only
        unfold promQ
        rw [if_pos (Int.le_refl _)]
      · have e : promQ ds j ep = ⟨12, (stoR ds prN (encL ⟨ep, []⟩)).2, deadN⟩ := by unfold promQ; rw [if_neg h, if_neg h2]
        rw [e] at hl
        cases hl
  | acc ep es =>
    show (accQ (accQ ds j ep es).ds (accQ ds j ep es).j ep es).j = (accQ ds j ep es).j
    change (accQ ds j ep es).j.gone = false at hl
    by_cases h1 : ep < j.p
    · have e : accQ ds j ep es = ⟨10, ds, j⟩ := by unfold accQ; rw [if_pos h1]
      rw [e]; simp only; rw [e]
    · by_cases h2 : ep = j.l.ep
      · have e : accQ ds j ep es = ⟨if begB es j.l.es = true then 0 else 11, ds, j⟩ := by unfold accQ; rw [if_neg h1, if_pos h2]
        rw [e]; simp only; rw [e]
      · by_cases h3 : j.p < ep
        · by_cases h4 : (promQ ds j ep).e = 0
          · have e : accQ ds j ep es = fresh (promQ ds j ep).ds (promQ ds j ep).j ep es := by unfold accQ; rw [if_neg h1, if_neg h2, if_pos h3, if_pos h4]
            rw [e] at hl ⊢
            refine hfr _ _ _ _ ?_ ?_ hl
            · rw [promQ_on hg h4]; exact Int.lt_irrefl _
            · rw [promQ_on hg h4]
          · have e : accQ ds j ep es = promQ ds j ep := by unfold accQ; rw [if_neg h1, if_neg h2, if_pos h3, if_neg h4]
            rw [e] at hl
            unfold promQ at hl h4
            split at h4
            · omega
            · rename_i h5
              split at h4
              · cases h4 rfl
              · rename_i h6
                rw [if_neg h5, if_neg h6] at hl
                cases hl
        · have e : accQ ds j ep es = fresh ds j ep es := by unfold accQ; rw [if_neg h1, if_neg h2, if_neg h3]
          rw [e] at hl ⊢
          exact hfr _ _ _ _ h1 hg hl
  | add ep x =>
    show (addQ (addQ ds j ep x).ds (addQ ds j ep x).j ep x).j = (addQ ds j ep x).j
    change (addQ ds j ep x).j.gone = false at hl
    by_cases h1 : ep ≠ j.p ∨ ep ≠ j.l.ep
    · have e : addQ ds j ep x = ⟨10, ds, j⟩ := by unfold addQ; rw [if_pos h1]
      rw [e]; simp only; rw [e]
    · by_cases h2 : ((j.l.es.length : Nat) : Int) + 1 < x.tx
      · have e : addQ ds j ep x = ⟨11, ds, j⟩ := by unfold addQ; rw [if_neg h1, if_pos h2]
        rw [e]; simp only; rw [e]
      · by_cases h3 : x.tx ≤ (j.l.es.length : Nat)
        · have e : addQ ds j ep x = ⟨if j.l.es[x.tx.toNat - 1]? = some x then 0 else 11, ds, j⟩ := by unfold addQ; rw [if_neg h1, if_neg h2, if_pos h3]
          rw [e]; simp only; rw [e]
        · by_cases h4 : (addR ds lgN (encE x)).1 = 0
          · have e : addQ ds j ep x = ⟨0, (addR ds lgN (encE x)).2, ⟨j.p, ⟨j.l.ep, j.l.es ++ [x]⟩, j.gone⟩⟩ := by unfold addQ; rw [if_neg h1, if_neg h2, if_neg h3, if_pos h4]
            rw [e]
            simp only
            unfold addQ
            simp only
            rw [if_neg h1, if_neg (by simp; omega), if_pos (by simp; omega)]
          · have e : addQ ds j ep x = ⟨12, (addR ds lgN (encE x)).2, deadN⟩ := by unfold addQ; rw [if_neg h1, if_neg h2, if_neg h3, if_neg h4]
            rw [e] at hl
            cases hl
theorem hand_twice (ds : DS) (j : Nd) (s : ByteArray) : (handQ (handQ ds j s).ds (handQ ds j s).j s).j = (handQ ds j s).j := by
  by_cases hg : j.gone = true
  · have e : handQ ds j s = ⟨ansT 12 [], ds, j⟩ := by unfold handQ; rw [if_pos hg]
    rw [e]; simp only; rw [e]
  · cases hr : readQ s with
    | none =>
      have e : handQ ds j s = ⟨ansT 2 [], ds, j⟩ := by unfold handQ; rw [if_neg hg, hr]
      rw [e]; simp only; rw [e]
    | some r =>
      have e1 : (handQ ds j s).ds = (doQ ds j r).ds := by unfold handQ; rw [if_neg hg, hr]
      have e2 : (handQ ds j s).j = (doQ ds j r).j := by unfold handQ; rw [if_neg hg, hr]
      rw [e1, e2]
      by_cases hl : (doQ ds j r).j.gone = true
      · unfold handQ; rw [if_pos hl]
      · have e3 : (handQ (doQ ds j r).ds (doQ ds j r).j s).j = (doQ (doQ ds j r).ds (doQ ds j r).j r).j := by unfold handQ; rw [if_neg hl, hr]
        rw [e3]
        exact do_twice (by simpa using hg) r (by simpa using hl)
/-- A promise that was made. -/
theorem hand_prom {ds : DS} {j : Nd} {ep : Int} (h0 : -9223372036854775808 ≤ ep) (h1 : ep ≤ 9223372036854775807) (h : handE ds j (joinT [pT, numT ep]) = 0) : epR ep = true ∧ readQ (joinT [pT, numT ep]) = some (.prom ep) ∧ j.gone = false ∧ j.p < ep ∧ (handQ ds j (joinT [pT, numT ep])).j = ⟨ep, j.l, false⟩ := by
  have hr := read_prom ep h0 h1
  unfold handE at h
  by_cases hg : j.gone = true
  · rw [if_pos hg] at h; cases h
  · rw [if_neg hg] at h
    by_cases he : epR ep = true
    · rw [if_pos he] at hr
      rw [hr] at h
      simp only at h
      change (promQ ds j ep).e = 0 at h
      refine ⟨he, hr, by simpa using hg, ?_, ?_⟩
      · unfold promQ at h
        split at h
        · cases h
        · omega
      · have e : (handQ ds j (joinT [pT, numT ep])).j = (promQ ds j ep).j := by unfold handQ; rw [if_neg hg, hr]; rfl
        rw [e, promQ_on (by simpa using hg) h]
    · rw [if_neg he] at hr
      rw [hr] at h
      cases h
theorem read_small : readQ ⟨#[]⟩ = none := read_empty
/-- Who asks with an earlier epoch changes nothing. -/
theorem hand_late {ds : DS} {j : Nd} {s : ByteArray} (hg : j.gone = false) (hr : ∀ r, readQ s = some r → match r with | .prom e => e < j.p | .acc e _ => e < j.p | .add e _ => e < j.p) : (handQ ds j s).j = j := by
  unfold handQ
  rw [if_neg (by rw [hg]; simp)]
  cases h : readQ s with
  | none => rfl
  | some r =>
    have := hr r h
    cases r with
    | prom e =>
      show (promQ ds j e).j = j
      unfold promQ
      simp only at this
      rw [if_pos (by omega)]
    | acc e es =>
      show (accQ ds j e es).j = j
      unfold accQ
      simp only at this
      rw [if_pos this]
    | add e x =>
      show (addQ ds j e x).j = j
      unfold addQ
      simp only at this
      rw [if_pos (.inl (by omega))]

/-! ### an empty disk -/
def nd0 : Nd := ⟨0, ⟨0, []⟩, false⟩
theorem nd0_ok : NdOk nd0 := ⟨rt_none, rfl, fun e => by cases e⟩
theorem open_none (room : Int) : openQ ⟨room, 0, false, []⟩ = (0, ⟨room, 0, false, []⟩, nd0) := rfl
theorem fil_none (N : Nat) : Fil N [] 0 := ⟨List.Pairwise.nil, (fun _ h => by cases h), .inl ⟨rfl, rfl⟩, Nat.zero_le _, Nat.zero_le _⟩
theorem run_none (room : Int) : Run room ⟨room, 0, false, []⟩ := ⟨rfl, rfl, by simp⟩
end Go.Proofs.YtfmhmokbbkliaaaGreat.Jrn

/- Plain: the examples' answers. -/
namespace Go.Proofs.YtfmhmokbbkliaaaGreat.Jrn
open Go.Proofs.YtfmhmokbbkliaaaGreat Go.Proofs.YtfmhmokbbkliaaaGreat.Wir Go.Proofs.YtfmhmokbbkliaaaGreat.Lgg
set_option linter.unusedVariables false

theorem hand_of {ds : DS} {j : Nd} {s : ByteArray} {r : Rq} (hg : j.gone = false) (hr : readQ s = some r) : handE ds j s = (doQ ds j r).e ∧ (handQ ds j s).ds = (doQ ds j r).ds ∧ (handQ ds j s).j = (doQ ds j r).j := by
  have h : ¬ j.gone = true := by rw [hg]; simp
  unfold handE handQ
  rw [if_neg h, if_neg h, hr]
  exact ⟨rfl, rfl, rfl⟩

abbrev D0 : DS := ⟨1000, 0, false, []⟩
abbrev sP : ByteArray := joinT [pT, numT 1]
abbrev sA : ByteArray := joinT (accTs 1 [])
abbrev xX : En := ⟨1, ⟨#[120]⟩⟩
abbrev xY : En := ⟨3, ⟨#[121]⟩⟩
abbrev sW : ByteArray := joinT [wT, numT 1, numT 1, ⟨#[120]⟩]
abbrev sY : ByteArray := joinT [wT, numT 1, numT 3, ⟨#[121]⟩]
theorem ep_one : epR 1 = true := by decide
theorem rt1 : RtL ⟨1, []⟩ := rt_ep (epR_ok ep_one)
theorem rd_P : readQ sP = some (.prom 1) := by rw [read_prom 1 (by omega) (by omega), if_pos ep_one]
theorem rd_A : readQ sA = some (.acc 1 []) := by rw [read_acc 1 [] rt1, if_pos ep_one]
theorem rd_W : readQ sW = some (.add 1 xX) := by
  have h := read_add 1 (by omega) (by omega) xX (by decide)
  rw [if_pos ep_one] at h
  exact h
theorem rd_Y : readQ sY = some (.add 1 xY) := by
  have h := read_add 1 (by omega) (by omega) xY (by decide)
  rw [if_pos ep_one] at h
  exact h
abbrev j1 : Nd := ⟨1, ⟨0, []⟩, false⟩
abbrev k1 : Nd := ⟨1, ⟨1, []⟩, false⟩
abbrev k2 : Nd := ⟨1, ⟨1, [xX]⟩, false⟩
theorem j1_ok : NdOk j1 := ⟨rt_none, rfl, fun e => by cases e⟩
theorem k1_ok : NdOk k1 := ⟨rt1, rfl, fun e => by cases e⟩
theorem k2_ok : NdOk k2 := ⟨RtL.snoc (es := []) rt1 (by simp) ⟨#[120]⟩ (by decide), rfl, fun e => by cases e⟩

/-- A promise on an empty disk. -/
theorem prom_0 (room : Int) (h : 48 ≤ room) : ∃ ds, promQ ⟨room, 0, false, []⟩ nd0 1 = ⟨0, ds, j1⟩ ∧ Run room ds ∧ ds.fuse = 0 ∧ Fil 0 ds.S 1 ∧ fget ds.S lgL = none := by
  obtain ⟨e, ds', hq, hw⟩ := sto_pr (N := 0) (ds := ⟨room, 0, false, []⟩) (run_none room) (fil_none 0) ep_one (by show ((0 + 24 + 0 + 24 : Nat) : Int) ≤ room; omega)
  rcases hw with ⟨rfl, h1, h2, h3⟩ | ⟨_, h1, _⟩
  · refine ⟨ds', ?_, ⟨h1.room, h1.up, h1.fu⟩, h1.f0 rfl, h2, h3⟩
    unfold promQ
    rw [if_neg (by show ¬ (1 : Int) ≤ 0; omega), hq]
    rfl
  · exact absurd rfl h1.f0
theorem ex_j : handE D0 nd0 sP = 0 ∧ (handQ D0 nd0 sP).j = j1 := by
  obtain ⟨ds, h, _⟩ := prom_0 1000 (by omega)
  obtain ⟨a, b, c⟩ := hand_of (ds := D0) (j := nd0) rfl rd_P
  change handE D0 nd0 sP = (promQ D0 nd0 1).e at a
  change (handQ D0 nd0 sP).j = (promQ D0 nd0 1).j at c
  rw [a, c, h]
  exact ⟨rfl, rfl⟩
theorem ex_j2 (ds : DS) : handE ds j1 sP = 10 ∧ (handQ ds j1 sP).j = j1 ∧ (handQ ds j1 sP).ds = ds := by
  obtain ⟨a, b, c⟩ := hand_of (ds := ds) (j := j1) rfl rd_P
  rw [a, b, c]
  exact ⟨rfl, rfl, rfl⟩
theorem ex_j3 (ds : DS) : handE ds j1 sW = 10 ∧ (handQ ds j1 sW).j = j1 ∧ (handQ ds j1 sW).ds = ds := by
  obtain ⟨a, b, c⟩ := hand_of (ds := ds) (j := j1) rfl rd_W
  rw [a, b, c]
  exact ⟨rfl, rfl, rfl⟩
theorem ex_k : handE D0 nd0 sA = 0 ∧ (handQ D0 nd0 sA).j = k1 ∧ handE (handQ D0 nd0 sA).ds k1 sW = 0 ∧ (handQ (handQ D0 nd0 sA).ds k1 sW).j = k2 := by
  obtain ⟨d1, h, r1, f1, F1, g1⟩ := prom_0 1000 (by omega)
  have hz := enc_pr (epR_ok ep_one)
  obtain ⟨e, d2, hq, hw⟩ := sto_lg (N := 0) r1 F1 rt1 (by rw [g1]; show ((0 + 48 + (encL ⟨1, []⟩).size : Nat) : Int) ≤ 1000; omega) (fun e => absurd f1 e)
  rcases hw with ⟨rfl, h1, F2, g2⟩ | ⟨_, h1, _⟩
  · have hacc : accQ D0 nd0 1 [] = ⟨0, d2, k1⟩ := by
      unfold accQ
      rw [if_neg (by show ¬ (1 : Int) < 0; omega), if_neg (by show ¬ (1 : Int) = 0; omega), if_pos (by show (0 : Int) < 1; omega), h]
      simp only
      rw [if_pos trivial]
      unfold fresh
      rw [hq]
      rfl
    obtain ⟨a, b, c⟩ := hand_of (ds := D0) (j := nd0) rfl rd_A
    change handE D0 nd0 sA = (accQ D0 nd0 1 []).e at a
    change (handQ D0 nd0 sA).ds = (accQ D0 nd0 1 []).ds at b
    change (handQ D0 nd0 sA).j = (accQ D0 nd0 1 []).j at c
    rw [hacc] at a b c
    refine ⟨a, c, ?_⟩
    rw [b]
    simp only
    have hx := encE_size (x := xX) (by decide) (by decide) (by decide)
    have hlen := encB_len ⟨1, []⟩
    obtain ⟨e3, d3, hq3, hw3⟩ := add_lg (N := 0) ⟨h1.room, h1.up, h1.fu⟩ F2 (x := xX) rt1 hx g2 (by rw [g2]; show (((encB ⟨1, []⟩).length + 48 + 0 + (encE xX).size : Nat) : Int) ≤ 1000; omega)
    rcases hw3 with ⟨rfl, h3, _⟩ | ⟨_, h3, _⟩
    · have hadd : addQ d2 k1 1 xX = ⟨0, d3, k2⟩ := by
        unfold addQ
        rw [if_neg (by show ¬ ((1 : Int) ≠ 1 ∨ (1 : Int) ≠ 1); omega), if_neg (by show ¬ ((0 : Nat) : Int) + 1 < 1; omega), if_neg (by show ¬ (1 : Int) ≤ ((0 : Nat) : Int); omega), hq3]
        rfl
      obtain ⟨a, b, c⟩ := hand_of (ds := d2) (j := k1) rfl rd_W
      change handE d2 k1 sW = (addQ d2 k1 1 xX).e at a
      change (handQ d2 k1 sW).j = (addQ d2 k1 1 xX).j at c
      rw [hadd] at a c
      exact ⟨a, c⟩
    · exact absurd (h1.f0 f1) h3.f0
  · exact absurd f1 h1.f0
theorem ex_k3 (ds : DS) : handE ds k2 sY = 11 ∧ (handQ ds k2 sY).j = k2 ∧ (handQ ds k2 sY).ds = ds := by
  obtain ⟨a, b, c⟩ := hand_of (ds := ds) (j := k2) rfl rd_Y
  rw [a, b, c]
  exact ⟨rfl, rfl, rfl⟩
end Go.Proofs.YtfmhmokbbkliaaaGreat.Jrn

/- Plain: a node and its disk through requests, through the going of the power, through a crash. -/
namespace Go.Proofs.YtfmhmokbbkliaaaGreat.Jrn
open Go.Proofs.YtfmhmokbbkliaaaGreat Go.Proofs.YtfmhmokbbkliaaaGreat.Wir Go.Proofs.YtfmhmokbbkliaaaGreat.Lgg
set_option linter.unusedVariables false

/-- The log's file. -/
def LgF (S : FS) (l : Lg) : Prop := (l = ⟨0, []⟩ ∧ fget S lgL = none) ∨ fget S lgL = some (encB l, (encB l).length)
theorem enc_top {l : Lg} (h : RtL l) : (encL l).size ≤ 187224 := by
  have := enc_lg h
  have := h.2.1
  omega
theorem LgF.len {S : FS} {l : Lg} (h : LgF S l) (hl : RtL l) : flen (fget S lgL) ≤ (encL l).size := by
  rcases h with ⟨_, h⟩ | h
  · rw [h]; exact Nat.zero_le _
  · rw [h]
    show (encB l).length ≤ _
    rw [encB_len]; exact Nat.le_refl _
/-- A node, its disk. -/
structure Dv (N : Nat) (ds : DS) (j : Nd) : Prop where
  run : Run 400000 ds
  fil : Fil N ds.S j.p
  lg : LgF ds.S j.l
  ok : NdOk j
  alive : j.gone = false
/-- The power has gone. -/
structure Lost (N : Nat) (ds : DS) (p : Int) (l : Lg) : Prop where
  room : ds.room = 400000
  down : ds.down = true
  fil : Fil N ds.S p
  lg : LgF ds.S l ∨ ∃ x, RtL ⟨l.ep, l.es ++ [x]⟩ ∧ fget ds.S lgL = some (encB l ++ (encE x).data.toList, (encB l).length)
  rt : RtL l
def Res (N : Nat) (ds : DS) (o : Out) (p : Int) (l : Lg) : Prop := (Dv N o.ds o.j ∧ (ds.fuse = 0 → o.ds.fuse = 0)) ∨ (ds.fuse ≠ 0 ∧ o.j = deadN ∧ ∃ p', p ≤ p' ∧ Lost N o.ds p' l)
def Wid (N : Nat) (ds : DS) : Prop := N ≤ 187224 ∧ (ds.fuse ≠ 0 → N = 187224)

section
variable {N : Nat} {ds : DS} {j : Nd}
theorem prom_res (hN : Wid N ds) (h : Dv N ds j) {ep : Int} (he : epR ep = true) : Res N ds (promQ ds j ep) j.p j.l := by
  by_cases h1 : ep ≤ j.p
  · have e : promQ ds j ep = ⟨10, ds, j⟩ := by unfold promQ; rw [if_pos h1]
    rw [e]
    exact .inl ⟨h, id⟩
  · have ht := enc_top h.ok.log
    have hll := h.lg.len h.ok.log
    obtain ⟨e, ds', hq, hw⟩ := sto_pr h.run h.fil he (by have := hN.1; omega)
    rcases hw with ⟨rfl, k1, k2, k3⟩ | ⟨rfl, k1, k2, k3⟩
    · have e : promQ ds j ep = ⟨0, ds', ⟨ep, j.l, j.gone⟩⟩ := by unfold promQ; rw [if_neg h1, hq]; rfl
      rw [e]
      refine .inl ⟨⟨⟨k1.room, k1.up, k1.fu⟩, k2, ?_, ⟨h.ok.log, epR_ok he, fun e => ?_⟩, h.alive⟩, k1.f0⟩
      · unfold LgF
        rw [k3]; exact h.lg
      · simp only at e; rw [h.alive] at e; cases e
    · have e : promQ ds j ep = ⟨12, ds', deadN⟩ := by unfold promQ; rw [if_neg h1, hq]; rfl
      rw [e]
      refine .inr ⟨k1.f0, rfl, j.p, Int.le_refl _, k1.room, k1.down, k2, .inl ?_, h.ok.log⟩
      unfold LgF
      rw [k3]; exact h.lg
theorem fresh_res (hN : Wid N ds) (h : Dv N ds j) {ep : Int} {es : List En} (he : RtL ⟨ep, es⟩) : Res N ds (fresh ds j ep es) j.p j.l := by
  have ht := enc_top h.ok.log
  have ht2 := enc_top he
  have hll := h.lg.len h.ok.log
  obtain ⟨e, ds', hq, hw⟩ := sto_lg h.run h.fil he (by omega) (fun e => by rw [hN.2 e]; exact ht2)
  rcases hw with ⟨rfl, k1, k2, k3⟩ | ⟨rfl, k1, k2, k3⟩
  · have e : fresh ds j ep es = ⟨0, ds', ⟨j.p, ⟨ep, es⟩, j.gone⟩⟩ := by unfold fresh; rw [hq]; rfl
    rw [e]
    exact .inl ⟨⟨⟨k1.room, k1.up, k1.fu⟩, k2, .inr k3, ⟨he, h.ok.p, fun e => by simp only at e; rw [h.alive] at e; cases e⟩, h.alive⟩, k1.f0⟩
  · have e : fresh ds j ep es = ⟨12, ds', deadN⟩ := by unfold fresh; rw [hq]; rfl
    rw [e]
    refine .inr ⟨k1.f0, rfl, j.p, Int.le_refl _, k1.room, k1.down, k2, .inl ?_, h.ok.log⟩
    unfold LgF
    rw [k3]; exact h.lg
theorem Wid.on {ds' : DS} (hN : Wid N ds) (h : ds.fuse = 0 → ds'.fuse = 0) : Wid N ds' := ⟨hN.1, fun e => hN.2 (fun e2 => e (h e2))⟩
theorem acc_res (hN : Wid N ds) (h : Dv N ds j) {ep : Int} {es : List En} (hp : epR ep = true) (he : RtL ⟨ep, es⟩) : Res N ds (accQ ds j ep es) j.p j.l := by
  unfold accQ
  split
  · exact .inl ⟨h, id⟩
  · split
    · exact .inl ⟨h, id⟩
    · split
      · rename_i h3
        split
        · rename_i h4
          have hon := promQ_on h.alive h4
          rcases prom_res hN h hp with ⟨k1, k2⟩ | ⟨_, k2, _⟩
          · rcases fresh_res (hN.on k2) k1 he with ⟨m1, m2⟩ | ⟨m1, m2, p', m3, m4⟩
            · exact .inl ⟨m1, fun e => m2 (k2 e)⟩
            · have hl1 : (promQ ds j ep).j.l = j.l := by rw [hon]
              have hp1 : (promQ ds j ep).j.p = ep := by rw [hon]
              rw [hl1] at m4
              rw [hp1] at m3
              exact .inr ⟨fun e => m1 (k2 e), m2, p', by omega, m4⟩
          · rw [hon] at k2
            have := congrArg Nd.gone k2
            cases this
        · exact prom_res hN h hp
      · exact fresh_res hN h he
theorem LgF.some {S : FS} {l : Lg} (h : LgF S l) (he : l.ep ≠ 0) : fget S lgL = some (encB l, (encB l).length) := by
  rcases h with ⟨h, _⟩ | h
  · rw [h] at he; exact absurd rfl he
  · exact h
theorem add_res (hN : Wid N ds) (h : Dv N ds j) {ep : Int} {x : En} (hp : epR ep = true) (hx : addR1 x = true) : Res N ds (addQ ds j ep x) j.p j.l := by
  obtain ⟨x1, x2, x3⟩ := (addR1_iff x).1 hx
  unfold addQ
  split
  · exact .inl ⟨h, id⟩
  · rename_i h1
    split
    · exact .inl ⟨h, id⟩
    · rename_i h2
      split
      · exact .inl ⟨h, id⟩
      · rename_i h3
        have hep := (epR_iff ep).1 hp
        have hg := h.lg.some (by omega)
        have hl3 : j.l.es.length < 300 := by omega
        have hxe : x = ⟨((j.l.es.length + 1 : Nat) : Int), x.d⟩ := by
          cases x; simp only [En.mk.injEq, and_true]; simp only at h2 h3; omega
        have hrt : RtL ⟨j.l.ep, j.l.es ++ [x]⟩ := by rw [hxe]; exact RtL.snoc h.ok.log hl3 _ x3
        have hz := encE_size (x := x) (by omega) (by omega) x3
        have hll := h.lg.len h.ok.log
        have hlz := enc_lg h.ok.log
        obtain ⟨e, ds', hq, hw⟩ := add_lg h.run h.fil (x := x) h.ok.log hz hg (by have := hN.1; omega)
        have hsn : encB j.l ++ (encE x).data.toList = encB ⟨j.l.ep, j.l.es ++ [x]⟩ := by
          show (encL j.l).data.toList ++ _ = (encL ⟨j.l.ep, j.l.es ++ [x]⟩).data.toList
          rw [encL_snoc, Wir.app_list]
        rw [hq]
        rcases hw with ⟨rfl, k1, k2, k3⟩ | ⟨rfl, k1, k2, k3⟩
        · rw [if_pos rfl]
          rw [hsn] at k3
          exact .inl ⟨⟨⟨k1.room, k1.up, k1.fu⟩, k2, .inr k3, ⟨hrt, h.ok.p, fun e => by simp only at e; rw [h.alive] at e; cases e⟩, h.alive⟩, k1.f0⟩
        · rw [if_neg (by omega)]
          refine .inr ⟨k1.f0, rfl, j.p, Int.le_refl _, k1.room, k1.down, k2, ?_, h.ok.log⟩
          rcases k3 with k3 | k3
          · exact .inl (.inr k3)
          · exact .inr ⟨x, hrt, k3⟩
theorem do_res (hN : Wid N ds) (h : Dv N ds j) {r : Rq} (hr : RqOk r) : Res N ds (doQ ds j r) j.p j.l := by
  cases r with
  | prom ep => exact prom_res hN h hr
  | acc ep es => exact acc_res hN h hr.1 hr.2
  | add ep x => exact add_res hN h hr.1 hr.2
/-- What is there behind any request. -/
theorem hand_res (hN : Wid N ds) (h : Dv N ds j) (s : ByteArray) : (Dv N (handQ ds j s).ds (handQ ds j s).j ∧ (ds.fuse = 0 → (handQ ds j s).ds.fuse = 0)) ∨ (ds.fuse ≠ 0 ∧ (handQ ds j s).j = deadN ∧ ∃ p', j.p ≤ p' ∧ Lost N (handQ ds j s).ds p' j.l) := by
  have hg : ¬ j.gone = true := by rw [h.alive]; simp
  cases hr : readQ s with
  | none =>
    have e : handQ ds j s = ⟨ansT 2 [], ds, j⟩ := by unfold handQ; rw [if_neg hg, hr]
    rw [e]
    exact .inl ⟨h, id⟩
  | some r =>
    obtain ⟨_, b, c⟩ := hand_of h.alive hr
    rw [b, c]
    exact do_res hN h (readQ_ok hr)
end
end Go.Proofs.YtfmhmokbbkliaaaGreat.Jrn

/- The contract of journal.takeAnswer, where there is a text. -/
namespace Go.Proofs.YtfmhmokbbkliaaaGreat.Jrn
open Go.RowKit Go.Proofs.YtfmhmokbbkliaaaGreat Go.Proofs.YtfmhmokbbkliaaaGreat.Wir Go.Proofs.YtfmhmokbbkliaaaGreat.Lgg Go.Proofs.YtfmhmokbbkliaaaGreat.Sep
set_option linter.unusedVariables false

/-- What is told, in a box. -/
structure Tld3 (W : World) (b : Nat) (ep : Int) (s : Value) (er : Int) : Prop where
  c0 : W.cell? ⟨b, 0, none⟩ = some (.int .i64 ep)
  c1 : W.cell? ⟨b, 1, none⟩ = some s
  c2 : W.cell? ⟨b, 2, none⟩ = some (.int .i64 er)
  fr : ∀ j, W.frozen? ⟨b, j, none⟩ = false
section
variable {W W' : World} {b : Nat} {ep er : Int} {s : Value}
theorem Tld3.below (h : Tld3 W b ep s er) (hb : Below W.heap.size W W') : Tld3 W' b ep s er := by
  have e := hb.block b (World.block_lt_of_cell? _ _ h.c0)
  exact ⟨(World.cell?_of_block (a := ⟨b, 0, none⟩) e).trans h.c0, (World.cell?_of_block (a := ⟨b, 1, none⟩) e).trans h.c1, (World.cell?_of_block (a := ⟨b, 2, none⟩) e).trans h.c2, fun j => (World.frozen?_of_block (a := ⟨b, j, none⟩) e).trans (h.fr j)⟩
theorem Tld3.new (W : World) (ep : Int) (s : Value) (er : Int) (T : TypeId) : Tld3 (W.alloc (.cells #[.int .i64 ep, s, .int .i64 er] T)) W.heap.size ep s er :=
  ⟨World.cell?_alloc_new W _ _ 0, World.cell?_alloc_new W _ _ 1, World.cell?_alloc_new W _ _ 2, fun j => World.frozen?_alloc_new W _ _ j⟩
theorem Tld3.sets (h : Tld3 W b ep s er) (ep' : Int) (s' : Value) (er' : Int) : Tld3 (((W.setCell ⟨b, 0, none⟩ (.int .i64 ep')).setCell ⟨b, 1, none⟩ s').setCell ⟨b, 2, none⟩ (.int .i64 er')) b ep' s' er' :=
  ⟨cell_set (by omega) (cell_set (by omega) (World.cell?_setCell_same _ _ _ h.c0)), cell_set (by omega) (World.cell?_setCell_same _ _ _ (cell_set (by omega) h.c1)), World.cell?_setCell_same _ _ _ (cell_set (by omega) (cell_set (by omega) h.c2)),
    fun j => by rw [World.frozen?_setCell, World.frozen?_setCell, World.frozen?_setCell]; exact h.fr j⟩
end
/-- The end: what is told is laid into the result. -/
theorem finT {w W : World} {RB n : Nat} {ep er : Int} {a : Option Addr} {c : Nat} {es : List En} {g : Option Nat} (hn : es.length = n) (hT : Tld3 W RB 0 (.slice none 0 0) 0) (hC : Cel (fun q => RB < q) W 2 (.slice a n c) n (rowC enC es) g) (hb : Below w.heap.size w W) (hR : w.heap.size = RB) :
    Tld3 (((W.setCell ⟨RB, 0, none⟩ (.int .i64 ep)).setCell ⟨RB, 1, none⟩ (.slice a n c)).setCell ⟨RB, 2, none⟩ (.int .i64 er)) RB ep (.slice a n c) er ∧
    Cel (fun q => w.heap.size ≤ q) (((W.setCell ⟨RB, 0, none⟩ (.int .i64 ep)).setCell ⟨RB, 1, none⟩ (.slice a n c)).setCell ⟨RB, 2, none⟩ (.int .i64 er)) 2 (.slice a es.length c) es.length (rowC enC es) g ∧
    Below w.heap.size w (((W.setCell ⟨RB, 0, none⟩ (.int .i64 ep)).setCell ⟨RB, 1, none⟩ (.slice a n c)).setCell ⟨RB, 2, none⟩ (.int .i64 er)) := by
  subst hn
  have hs := stay_sets W RB (.int .i64 ep) (.slice a es.length c) (.int .i64 er)
  refine ⟨hT.sets ep _ er, hC.stay hs.size (fun q hq => hs.block q (by rw [hq] at hC; exact hC.lt.1) (fun e => by rw [hq] at hC; have h9 : RB < q := hC.lt.2; omega)) (fun q hq => by have h9 : RB < q := hq; omega), hb.trans (hs.below hb.size (fun x hx => by omega))⟩

set_option maxRecDepth 100000 in
set_option maxHeartbeats 2000000 in
theorem ans_any {w : World} {a : Option Addr} {b off : Nat} {t : ByteArray} {rest : List ByteArray} (h : Strs w a b off (t :: rest)) (m q : Nat) (hm : rest.length = m) (hq : m ≤ q) (hm3 : m ≤ 1000) (hx : ∀ x ∈ rest, x.size ≤ 4000) (r : Option (Lg × Int)) (HQ : ansP (t :: rest) = r) :
    Calls Tryz.prog 51 #[.slice a (1 + m) (1 + q)] w fun x w' => AnsO w.heap.size r x w' ∧ Below w.heap.size w w' := by
  obtain rfl := h.addr (by simp)
  have c0 : w.cell? ⟨b, off, none⟩ = some (.string t) := h.cell 0 (by simp)
  have hts := h.small t (by simp)
  have hi0 : (0 : Int) < 1 + (m : Int) := by omega
  have hd1 : decide ((1 : Int) ≤ 1 + (m : Int)) = true := decide_eq_true (by omega)
  have HY : Hid (∀ W, Calls Tryz.prog 94 #[.bool true] W fun e w' => e = .returned (.tuple #[]) ∧ w' = W) := need_yes
  have HF : Hid (∀ W, Calls Tryz.prog 94 #[.bool false] W fun e w' => e = leftV ∧ w' = W) := need_no
  have hst := fun (w : World) (a : Addr) (x : ByteArray) (m : Mode) => run_store (P := Tryz.prog) w a (.string x) m rfl
  have hst2 : ∀ (w : World) (a : Addr) (x : Option Addr) (n c : Nat) (m : Mode), (store a (.slice x n c) m).run Tryz.prog w = stored Tryz.prog w a (.slice x n c) m := fun w a x n c m => run_store (P := Tryz.prog) w a _ m rfl
  have A1 := Tld3.new w 0 (.slice none 0 0) 0 81
  have B1 : Hid (Below w.heap.size w (w.alloc (.cells #[.int .i64 0, .slice none 0 0, .int .i64 0] 81))) := bel_al _ _
  have hz1 : (w.alloc (.cells #[.int .i64 0, .slice none 0 0, .int .i64 0] 81)).heap.size = w.heap.size + 1 := by simp
  have d0 := bel_cell B1.out c0
  obtain ⟨RB, hRB⟩ : ∃ RB, w.heap.size = RB := ⟨_, rfl⟩
  have HRB : Hid (w.heap.size = RB) := hRB
  simp only [hRB] at A1
  go_enter Tryz.func51, Tryz.ntmps51
  go_upto_region 1 with fail
  try simp only [hRB]
  generalize w.alloc (.cells #[.int .i64 0, .slice none 0 0, .int .i64 0] 81) = W1 at *
  have HA1 : Hid (Tld3 W1 RB 0 (.slice none 0 0) 0) := A1
  have HZ1 : Hid (W1.heap.size = w.heap.size + 1) := hz1
  have HSS : Hid (Strs w (some ⟨b, off, none⟩) b off (t :: rest)) := h
  clear A1 hz1 c0 h hRB
  cases hnum : numP t with
  | none =>
    have hr : r = none := by rw [← HQ]; simp only [ansP, hnum]
    subst hr
    have CN : Hid (∀ W, Calls Tryz.prog 95 #[.string t] W fun x w' => x = leftV ∧ Below W.heap.size W w') := fun W => takeNumber_no t hts hnum W
    clear HQ hnum hts
    go_wp2_with (first
      | (go_at_call 94; refine (HY.out _).mono ?_; rintro x wy ⟨rfl, hwy⟩; have hwy2 := hwy.symm; clear hwy; subst hwy2)
      | (go_at_call 95; refine (CN.out _).mono ?_; rintro x w2 ⟨rfl, b2⟩))
    exact ⟨rfl, rfl, bel_tr B1.out b2⟩
  | some e =>
    have CN : Hid (∀ W, Calls Tryz.prog 95 #[.string t] W fun x w' => x = .returned (.int .i64 e) ∧ Below W.heap.size W w') := fun W => takeNumber_yes t hts e hnum W
    have hq1 : r = if 0 ≤ e ∧ e ≤ 14 then (if rest.length = 0 then some (⟨0, []⟩, e) else if e = 0 then logP rest else none) else none := by rw [← HQ]; simp only [ansP, hnum]
    have HR : Hid (r = if 0 ≤ e ∧ e ≤ 14 then (if rest.length = 0 then some (⟨0, []⟩, e) else if e = 0 then logP rest else none) else none) := hq1
    clear HQ hnum hts hq1
    by_cases he0 : 0 ≤ e
    case neg =>
      have hd0 : decide (0 ≤ e) = false := decide_eq_false he0
      have hr : r = none := by rw [HR.out, if_neg (fun k => he0 k.1)]
      subst hr
      clear HR
      go_wp2_with (first
        | (go_at_call 94; refine (HY.out _).mono ?_; rintro x wy ⟨rfl, hwy⟩; have hwy2 := hwy.symm; clear hwy; subst hwy2)
        | (go_at_call 94; refine (HF.out _).mono ?_; rintro x wy ⟨rfl, hwy⟩; have hwy2 := hwy.symm; clear hwy; subst hwy2)
        | (go_at_call 95; refine (CN.out _).mono ?_; rintro x w2 ⟨rfl, b2⟩; have B2 : Hid (Below w.heap.size w w2) := bel_tr B1.out b2; clear b2))
      exact ⟨rfl, rfl, B2.out⟩
    case pos =>
    have hd0 : decide (0 ≤ e) = true := decide_eq_true he0
    by_cases he1 : e ≤ 14
    case neg =>
      have hd9 : decide (e ≤ 14) = false := decide_eq_false he1
      have hr : r = none := by rw [HR.out, if_neg (fun k => he1 k.2)]
      subst hr
      clear HR
      go_wp2_with (first
        | (go_at_call 94; refine (HY.out _).mono ?_; rintro x wy ⟨rfl, hwy⟩; have hwy2 := hwy.symm; clear hwy; subst hwy2)
        | (go_at_call 94; refine (HF.out _).mono ?_; rintro x wy ⟨rfl, hwy⟩; have hwy2 := hwy.symm; clear hwy; subst hwy2)
        | (go_at_call 95; refine (CN.out _).mono ?_; rintro x w2 ⟨rfl, b2⟩; have B2 : Hid (Below w.heap.size w w2) := bel_tr B1.out b2; clear b2))
      exact ⟨rfl, rfl, B2.out⟩
    case pos =>
    have hd9 : decide (e ≤ 14) = true := decide_eq_true he1
    have HR2 : Hid (r = if m = 0 then some (⟨0, []⟩, e) else if e = 0 then logP rest else none) := by show _ = _; rw [HR.out, if_pos ⟨he0, he1⟩, hm]
    clear HR
    go_upto_region 4 with (first
      | (go_at_call 94; refine (HY.out _).mono ?_; rintro x wy ⟨rfl, hwy⟩; have hwy2 := hwy.symm; clear hwy; subst hwy2)
      | (go_at_call 95; refine (CN.out _).mono ?_; rintro x w2 ⟨rfl, b2⟩; have B2 : Hid (Below W1.heap.size W1 w2) := b2; clear b2))
    have HA2 : Hid (Tld3 w2 RB 0 (.slice none 0 0) 0) := HA1.out.below B2.out
    have HBW : Hid (Below w.heap.size w w2) := bel_tr B1.out B2.out
    have HLT : Hid (RB < w2.heap.size) := World.block_lt_of_cell? _ _ HA2.out.c0
    clear d0 HA1 B1 B2
    go_cut [4] (fun v wx => ∃ a2 b2 off2, v = .slice a2 m q ∧ Strs w2 a2 b2 off2 rest ∧ wx = w2)
    case first =>
      have hS2 := strs_drop1 (HSS.out.below HBW.out)
      by_cases hq0 : q = 0
      · subst hq0
        obtain rfl : m = 0 := by omega
        obtain rfl : rest = [] := List.length_eq_zero_iff.1 hm
        clear hS2
        go_wp2
        go_meet
        case rel => exact ⟨_, 0, 0, rfl, ⟨fun h => (by simp at h), fun j h => (by simp at h), fun s h => (by simp at h), (by show 0 ≤ maxLen; omega)⟩, rfl⟩
      · have hS9 : Hid (Strs w2 (some ⟨b, off + 1, none⟩) b (off + 1) rest) := hS2
        clear hS2
        go_wp2
        go_meet
        case rel => exact ⟨_, _, _, rfl, hS9.out, rfl⟩
    case rest =>
    obtain ⟨a2, b2, off2, rfl, hS, hw⟩ := hcut
    obtain rfl : w2 = wc := hw.symm
    have HS2 : Hid (Strs w2 a2 b2 off2 rest) := hS
    clear hS HSS hw
    by_cases hm0 : m = 0
    · subst hm0
      have hr : r = some (⟨0, []⟩, e) := by rw [HR2.out]; rfl
      subst hr
      have g0 := HA2.out.c0
      have g1 := HA2.out.c1
      have g2 := HA2.out.c2
      have f0 := HA2.out.fr 0
      have f1 := HA2.out.fr 1
      have f2 := HA2.out.fr 2
      go_wp2_with (go_at_call 94; refine (HY.out _).mono ?_; rintro x wy ⟨rfl, hwy⟩; have hwy2 := hwy.symm; clear hwy; subst hwy2)
      obtain ⟨F1, F2, F3⟩ := finT (ep := 0) (er := e) (es := []) (n := 0) (a := none) (c := 0) rfl HA2.out (.nil rfl rfl rfl) HBW.out HRB.out
      refine bodyPost_ret (v := .agg #[.int .i64 0, .slice none 0 0, .int .i64 e]) ?_ rfl ⟨⟨_, _, _, rfl, F2⟩, F3⟩
      simp only [results, Tryz.results51]
      have F10 := F1.c0
      have F11 := F1.c1
      have F12 := F1.c2
      simp [go_sem, F10, F11, F12]
    · have hm0b : ((m : Int) == 0) = false := beq_eq_false_iff_ne.2 (by omega)
      have hm0i : ¬ (m : Int) = 0 := by omega
      by_cases hez : e = 0
      case neg =>
        have hr : r = none := by rw [HR2.out, if_neg hm0, if_neg hez]
        have hezb : (e == 0) = false := beq_eq_false_iff_ne.2 hez
        subst hr
        clear HR2
        go_wp2_with (go_at_call 94; refine (HF.out _).mono ?_; rintro x wy ⟨rfl, hwy⟩; have hwy2 := hwy.symm; clear hwy; subst hwy2)
        exact ⟨rfl, rfl, HBW.out⟩
      case pos =>
      have HR3 : Hid (r = logP rest) := by show _ = _; rw [HR2.out, if_neg hm0, if_pos hez]
      subst hez
      clear HR2
      have CJ : Hid (Calls Tryz.prog 97 #[.slice a2 m q, .string ⟨#[]⟩] w2 fun x w' => x = .returned (.string (catL rest)) ∧ Below w2.heap.size w2 w') := sjoinC_any a2 b2 off2 q m rest w2 HS2.out hm hq hm3 hx
      have hcs := cat_size rest hx
      cases hp : parseL (catL rest) with
      | none =>
        have hr : r = none := by rw [HR3.out]; unfold logP; rw [hp]
        subst hr
        have CT : Hid (∀ W, Calls Tryz.prog 96 #[.string (catL rest)] W fun x w' => x = leftV ∧ Below W.heap.size W w') := fun W => takeLog_no _ (by omega) (.inr hp) W
        clear HR3 hp hcs
        generalize catL rest = X at *
        go_wp2_with (first
          | (go_at_call 94; refine (HY.out _).mono ?_; rintro x wy ⟨rfl, hwy⟩; have hwy2 := hwy.symm; clear hwy; subst hwy2)
          | (go_at_call 97; refine CJ.out.mono ?_; rintro x w3 ⟨rfl, b3⟩; have B3 : Hid (Below w.heap.size w w3) := bel_tr HBW.out b3; clear b3)
          | (go_at_call 96; refine (CT.out _).mono ?_; rintro x w4 ⟨rfl, b4⟩; have B4 : Hid (Below w.heap.size w w4) := bel_tr B3.out b4; clear b4))
        exact ⟨rfl, rfl, B4.out⟩
      | some lr =>
        obtain ⟨l, R⟩ := lr
        have hlR := parse_right hp
        by_cases h4 : (catL rest).size ≤ 400000
        case neg =>
          have hr : r = none := by
            rw [HR3.out]; unfold logP; rw [hp]; simp only
            rw [if_neg (fun e => ?_)]
            have h9 := pieces_cat (encL l).size _ (Nat.le_refl _)
            rw [e] at h9
            have := enc_bound hlR
            rw [h9] at h4
            omega
          subst hr
          have CT : Hid (∀ W, Calls Tryz.prog 96 #[.string (catL rest)] W fun x w' => x = leftV ∧ Below W.heap.size W w') := fun W => takeLog_no _ (by omega) (.inl (by omega)) W
          clear HR3 hp hcs h4
          generalize catL rest = X at *
          go_wp2_with (first
            | (go_at_call 94; refine (HY.out _).mono ?_; rintro x wy ⟨rfl, hwy⟩; have hwy2 := hwy.symm; clear hwy; subst hwy2)
            | (go_at_call 97; refine CJ.out.mono ?_; rintro x w3 ⟨rfl, b3⟩; have B3 : Hid (Below w.heap.size w w3) := bel_tr HBW.out b3; clear b3)
            | (go_at_call 96; refine (CT.out _).mono ?_; rintro x w4 ⟨rfl, b4⟩; have B4 : Hid (Below w.heap.size w w4) := bel_tr B3.out b4; clear b4))
          exact ⟨rfl, rfl, B4.out⟩
        case pos =>
        have CT : Hid (∀ W, Calls Tryz.prog 96 #[.string (catL rest)] W fun x w' => LogC W.heap.size l x w' ∧ Below W.heap.size W w') := fun W => takeLog_yes _ h4 l R hp W
        obtain ⟨v, hv⟩ : ∃ v, decide (piecesL (encL l) = rest) = v := ⟨_, rfl⟩
        have HR4 : Hid (r = if v = true then some (l, 0) else none) := by
          show _ = _
          rw [HR3.out]; unfold logP; rw [hp]; simp only
          rw [← hv]
          by_cases hpe : piecesL (encL l) = rest
          · rw [if_pos hpe, if_pos (decide_eq_true hpe)]
          · rw [if_neg hpe, if_neg (by simp [hpe])]
        have hsz := pieces_size (encL l).size _ (Nat.le_refl _)
        have hle := enc_bound hlR
        obtain ⟨ep, es⟩ := l
        obtain ⟨n, hn⟩ : ∃ n, es.length = n := ⟨_, rfl⟩
        have HN : Hid (es.length = n) := hn
        have HLR : Hid (RtL ⟨ep, es⟩) := hlR
        have HV : Hid (decide (piecesL (encL ⟨ep, es⟩) = rest) = v) := hv
        have HSZ : Hid (∀ p ∈ piecesL (encL ⟨ep, es⟩), p.size ≤ maxLen) := fun p hp => by have := hsz.1 p hp; unfold maxLen; omega
        have HM : Hid (rest.length = m) := hm
        clear HR3 hp hcs h4 hsz hle hlR hv hn hm hx
        generalize catL rest = X at *
        go_upto_region 9 with (first
          | (go_at_call 94; refine (HY.out _).mono ?_; rintro x wy ⟨rfl, hwy⟩; have hwy2 := hwy.symm; clear hwy; subst hwy2)
          | (go_at_call 97; refine CJ.out.mono ?_; rintro x w3 ⟨rfl, b3⟩; have B3 : Hid (Below w2.heap.size w2 w3) := b3; clear b3)
          | (go_at_call 96; refine (CT.out _).mono ?_; rintro x w4 ⟨⟨ea, ec, eg, hxe, hC⟩, b4⟩; simp only at hxe hC; rw [HN.out] at hxe hC; subst hxe; have B4 : Hid (Below w2.heap.size w2 w4) := bel_tr B3.out b4; have HC4 : Hid (Cel (fun z => w3.heap.size ≤ z) w4 2 (.slice ea n ec) n (rowC enC es) eg) := hC; clear b4 hC))
        have hbx := bel_al w4 (.cells #[.int .i64 ep, .slice ea n ec] 34)
        obtain ⟨y0, y1, _, _⟩ := cells2 w4 (.int .i64 ep) (.slice ea n ec) 34
        have B5 : Hid (Below w2.heap.size w2 (w4.alloc (.cells #[.int .i64 ep, .slice ea n ec] 34))) := bel_tr B4.out hbx
        have HC5 : Hid (Cel (fun z => RB < z) (w4.alloc (.cells #[.int .i64 ep, .slice ea n ec] 34)) 2 (.slice ea n ec) n (rowC enC es) eg) := (HC4.out.below hbx).stay (Nat.le_refl _) (fun _ _ => rfl) (fun z hz => by have h9 : w3.heap.size ≤ z := hz; have h8 := B3.out.size; have := HLT.out; omega)
        clear hbx HC4
        generalize w4.alloc (.cells #[.int .i64 ep, .slice ea n ec] 34) = W5 at *
        generalize w4.heap.size = LB at *
        have CP : Hid (∀ W, Below W5.heap.size W5 W → Calls Tryz.prog 69 #[.agg #[.int .i64 ep, .slice ea n ec]] W fun e w' => StrR W.heap.size (piecesL (encL ⟨ep, es⟩)) e w' ∧ Below W.heap.size W w') := fun W hb => by
          have h9 : Cel (fun z => RB < z) W5 2 (.slice ea es.length ec) es.length (rowC enC es) eg := by rw [HN.out]; exact HC5.out
          exact pieces_val ((Lie.of_cel wideN h9).below hb) ep n ec HN.out HLR.out _ rfl
        cases v with
        | false =>
          have hr : r = none := by rw [HR4.out]; simp
          subst hr
          go_wp2_with (first
            | (go_at_call 94; refine (HF.out _).mono ?_; rintro x wy ⟨rfl, hwy⟩; have hwy2 := hwy.symm; clear hwy; subst hwy2)
            | (go_at_call 69; refine (CP.out _ (Below.refl _ _)).mono ?_; rintro x w6 ⟨⟨pa, pc, pg, rfl, hPC⟩, b6⟩; have B6 : Hid (Below w2.heap.size w2 w6) := bel_tr B5.out b6; have CE : Hid (Calls Tryz.prog 98 #[.slice pa (piecesL (encL ⟨ep, es⟩)).length pc, .slice a2 m q] w6 fun e w' => e = .returned (.bool false) ∧ Below w6.heap.size w6 w') := (by obtain ⟨_, pb, hPS⟩ := strs_of_cel hPC HSZ.out; exact equalS_val pa a2 pb 0 pc b2 off2 q _ m _ rest false w6 hPS (HS2.out.below B6.out) rfl HM.out HV.out); clear b6 hPC)
            | (go_at_call 98; refine CE.out.mono ?_; rintro x w7 ⟨rfl, b7⟩; have B7 : Hid (Below w2.heap.size w2 w7) := bel_tr B6.out b7; clear b7))
          exact ⟨rfl, rfl, bel_tr HBW.out B7.out⟩
        | true =>
          have hr : r = some (⟨ep, es⟩, 0) := by rw [HR4.out]; simp
          subst hr
          go_upto_region 10 with (first
            | (go_at_call 94; refine (HY.out _).mono ?_; rintro x wy ⟨rfl, hwy⟩; have hwy2 := hwy.symm; clear hwy; subst hwy2)
            | (go_at_call 69; refine (CP.out _ (Below.refl _ _)).mono ?_; rintro x w6 ⟨⟨pa, pc, pg, rfl, hPC⟩, b6⟩; have B6 : Hid (Below W5.heap.size W5 w6) := b6; have CE : Hid (Calls Tryz.prog 98 #[.slice pa (piecesL (encL ⟨ep, es⟩)).length pc, .slice a2 m q] w6 fun e w' => e = .returned (.bool true) ∧ Below w6.heap.size w6 w') := (by obtain ⟨_, pb, hPS⟩ := strs_of_cel hPC HSZ.out; exact equalS_val pa a2 pb 0 pc b2 off2 q _ m _ rest true w6 hPS (HS2.out.below (bel_tr B5.out B6.out)) rfl HM.out HV.out); clear b6 hPC)
            | (go_at_call 98; refine CE.out.mono ?_; rintro x w7 ⟨rfl, b7⟩; have B7 : Hid (Below W5.heap.size W5 w7) := bel_tr B6.out b7; clear b7))
          have x0 := bel_cell B7.out y0
          have x1 := bel_cell B7.out y1
          have HA7 : Hid (Tld3 w7 RB 0 (.slice none 0 0) 0) := (HA2.out.below B5.out).below B7.out
          have HC7 : Hid (Cel (fun z => RB < z) w7 2 (.slice ea n ec) n (rowC enC es) eg) := HC5.out.below B7.out
          have HB7 : Hid (Below w.heap.size w w7) := bel_tr HBW.out (bel_tr B5.out B7.out)
          have g0 := HA7.out.c0
          have g1 := HA7.out.c1
          have g2 := HA7.out.c2
          have f0 := HA7.out.fr 0
          have f1 := HA7.out.fr 1
          have f2 := HA7.out.fr 2
          go_wp2
          obtain ⟨F1, F2, F3⟩ := finT (ep := ep) (er := 0) HN.out HA7.out HC7.out HB7.out HRB.out
          refine bodyPost_ret (v := .agg #[.int .i64 ep, .slice ea n ec, .int .i64 0]) ?_ rfl ⟨⟨ea, ec, eg, by simp only [HN.out], F2⟩, F3⟩
          simp only [results, Tryz.results51]
          have F10 := F1.c0
          have F11 := F1.c1
          have F12 := F1.c2
          simp [go_sem, F10, F11, F12]

end Go.Proofs.YtfmhmokbbkliaaaGreat.Jrn

/- The contract of journal.taken, at answers. -/
namespace Go.Proofs.YtfmhmokbbkliaaaGreat.Jrn
open Go.RowKit Go.Proofs.YtfmhmokbbkliaaaGreat Go.Proofs.YtfmhmokbbkliaaaGreat.Wir Go.Proofs.YtfmhmokbbkliaaaGreat.Lgg
set_option linter.unusedVariables false

/-- An answer that was taken, in new memory. -/
structure TkT (base : Nat) (ep er : Int) (es : List En) (e : Ending) (w' : World) : Prop where
  ex : ∃ a c g, e = .returned (.tuple #[.agg #[.int .i64 ep, .slice a es.length c, .int .i64 er], .int .i64 0]) ∧ Cel (fun q => base ≤ q) w' 2 (.slice a es.length c) es.length (rowC enC es) g

theorem takeAnswer_any {w : World} {a : Option Addr} {b off : Nat} {ts : List ByteArray} (h : Strs w a b off ts) (n c : Nat) (hn : ts.length = n) (hc : n ≤ c) (hl : n ≤ 1000) (hx : ∀ x ∈ ts, x.size ≤ 4000) :
    Calls Tryz.prog 51 #[.slice a n c] w fun x w' => AnsO w.heap.size (ansP ts) x w' ∧ Below w.heap.size w w' := by
  match ts, hn with
  | [], hn =>
    obtain rfl : n = 0 := by simpa using hn.symm
    exact ans_none a c
  | t :: rest, hn =>
    obtain ⟨q, rfl⟩ : ∃ q, c = 1 + q := ⟨c - 1, by simp at hn; omega⟩
    obtain ⟨m, rfl⟩ : ∃ m, n = 1 + m := ⟨n - 1, by simp at hn; omega⟩
    exact ans_any h m q (by simp at hn; omega) (by omega) (by omega) (fun x hx2 => hx x (by simp [hx2])) _ rfl
set_option maxRecDepth 100000 in
theorem catchT_panic {R : Nat} {w : World} {u : Value} (h : w.cell? ⟨R, 0, none⟩ = some u) (f : w.frozen? ⟨R, 0, none⟩ = false) (older : List PanicEntry) :
    CallsD Tryz.prog 92 #[.pointer (some ⟨R, 0, none⟩)] (.panicking ({ v := .iface 26 (.int .i64 2), recovered := false } :: older)) w fun e u' w' =>
      e = .returned (.tuple #[]) ∧ u' = .panicking ({ v := .iface 26 (.int .i64 2), recovered := true } :: older) ∧ w' = w.setCell ⟨R, 0, none⟩ (.int .i64 2) := by
  refine callsD_of_wpS Tryz.func92 rfl fun c₀ cs hu => ?_
  apply wpS_seq
  apply wpS_region
  simp [wpOpsS, go_sem, recoverD, hu, Tryz.ntmps92, Exit.thenS]
  refine wpS_of_wp ?_
  go_wp2
  exact ⟨rfl, _, rfl, .tuple #[], by simp [results, Tryz.results92], rfl, rfl, rfl⟩
set_option maxRecDepth 100000 in
theorem catchT_idle {R : Nat} {w : World} :
    CallsD Tryz.prog 92 #[.pointer (some ⟨R, 0, none⟩)] .returning w fun e u' w' => e = .returned (.tuple #[]) ∧ u' = .returning ∧ w' = w := by
  refine callsD_of_wpS Tryz.func92 rfl fun c₀ cs hu => ?_
  apply wpS_seq
  apply wpS_region
  simp [wpOpsS, go_sem, recoverD, hu, Tryz.ntmps92, Exit.thenS]
  refine wpS_of_wp ?_
  go_wp2
  cases c₀
  simp_all [bodyPostS, results, Tryz.results92]

/-- How 'taken' ends. -/
structure BoxT (W : World) (b : Nat) (er : Int) (ep : Int) (s : Value) (ee : Int) : Prop where
  c0 : W.cell? ⟨b, 0, none⟩ = some (.int .i64 ep)
  c1 : W.cell? ⟨b, 1, none⟩ = some s
  c2 : W.cell? ⟨b, 2, none⟩ = some (.int .i64 ee)
  ce : W.cell? ⟨b + 1, 0, none⟩ = some (.int .i64 er)
  fr : ∀ j, W.frozen? ⟨b, j, none⟩ = false
  fe : W.frozen? ⟨b + 1, 0, none⟩ = false
theorem BoxT.stay {O : Nat → Prop} {W W' : World} {b : Nat} {er : Int} {ep : Int} {s : Value} {ee : Int} (h : BoxT W b er ep s ee) (hs : Stay O W W') (hO : ¬ O b) (hO1 : ¬ O (b + 1)) : BoxT W' b er ep s ee := by
  have e := hs.block b (World.block_lt_of_cell? _ _ h.c0) hO
  have e1 := hs.block (b + 1) (World.block_lt_of_cell? _ _ h.ce) hO1
  exact ⟨(World.cell?_of_block (a := ⟨b, 0, none⟩) e).trans h.c0, (World.cell?_of_block (a := ⟨b, 1, none⟩) e).trans h.c1, (World.cell?_of_block (a := ⟨b, 2, none⟩) e).trans h.c2, (World.cell?_of_block (a := ⟨b + 1, 0, none⟩) e1).trans h.ce, fun j => (World.frozen?_of_block (a := ⟨b, j, none⟩) e).trans (h.fr j), (World.frozen?_of_block (a := ⟨b + 1, 0, none⟩) e1).trans h.fe⟩
theorem BoxT.below {W W' : World} {b : Nat} {er : Int} {ep : Int} {s : Value} {ee : Int} (h : BoxT W b er ep s ee) (hb : Below W.heap.size W W') : BoxT W' b er ep s ee := h.stay (O := fun _ => False) (Stay.of_below hb) id id
theorem boxT_new (w : World) : BoxT ((w.alloc (.cells #[.int .i64 0, .slice none 0 0, .int .i64 0] 81)).alloc (.cells #[.int .i64 0] 26)) w.heap.size 0 0 (.slice none 0 0) 0 := by
  have hz : (w.alloc (.cells #[.int .i64 0, .slice none 0 0, .int .i64 0] 81)).heap.size = w.heap.size + 1 := by simp
  have b1 := bel_al (w.alloc (.cells #[.int .i64 0, .slice none 0 0, .int .i64 0] 81)) (.cells #[.int .i64 0] 26)
  have e1 := World.cell?_alloc_new (w.alloc (.cells #[.int .i64 0, .slice none 0 0, .int .i64 0] 81)) #[.int .i64 0] 26 0
  have e2 := World.frozen?_alloc_new (w.alloc (.cells #[.int .i64 0, .slice none 0 0, .int .i64 0] 81)) #[.int .i64 0] 26 0
  rw [hz] at e1 e2
  exact ⟨bel_cell b1 (World.cell?_alloc_new w _ _ 0), bel_cell b1 (World.cell?_alloc_new w _ _ 1), bel_cell b1 (World.cell?_alloc_new w _ _ 2), e1, fun j => (World.frozen?_of_block (a := ⟨w.heap.size, j, none⟩) (b1.block w.heap.size (by omega))).trans (World.frozen?_alloc_new w _ _ j), e2⟩
theorem BoxT.putE {W : World} {b : Nat} {er : Int} {ep : Int} {s : Value} {ee : Int} (h : BoxT W b er ep s ee) (er' : Int) : BoxT (W.setCell ⟨b + 1, 0, none⟩ (.int .i64 er')) b er' ep s ee :=
  ⟨other (by omega) h.c0, other (by omega) h.c1, other (by omega) h.c2, World.cell?_setCell_same _ _ _ h.ce, fun j => by rw [World.frozen?_setCell]; exact h.fr j, by rw [World.frozen?_setCell]; exact h.fe⟩

set_option maxRecDepth 100000 in
set_option maxHeartbeats 2000000 in
/-- It panics, or Split refuses. -/
theorem takenT_no (s : ByteArray) (hs : s.size ≤ maxLen) (w : World) (hT : ∀ ts, splitL s = some ts → ∀ (W : World) (a : Option Addr) (b c n : Nat), Strs W a b 0 ts → ts.length = n → n ≤ c → Calls Tryz.prog 51 #[.slice a n c] W fun e w' => e = leftV ∧ Below W.heap.size W w') :
    Calls Tryz.prog 50 #[.string s, .func (.func 51) #[] #[]] w fun e w' => e = .returned (.tuple #[.agg #[.int .i64 0, .slice none 0 0, .int .i64 0], .int .i64 2]) ∧ Below w.heap.size w w' := by
  have hmf : ∀ (fn : Fn) (first cap : Array Value) (w : World), (Instr.makeFunc fn first cap).run Tryz.prog w = .ok (.func fn first cap) w := fun _ _ _ _ => rfl
  have HS : Hid (∀ W, Calls Tryz.prog 93 #[.string s] W fun e w' => SplitEnds W.heap.size (.int .i64 0) (.int .i64 2) (splitL s) e w' ∧ Below W.heap.size W w') := fun W => split_any s W hs
  have HY : Hid (∀ W, Calls Tryz.prog 94 #[.bool true] W fun e w' => e = .returned (.tuple #[]) ∧ w' = W) := need_yes
  have HF : Hid (∀ W, Calls Tryz.prog 94 #[.bool false] W fun e w' => e = leftV ∧ w' = W) := need_no
  have HT : Hid (∀ ts, splitL s = some ts → ∀ (W : World) (a : Option Addr) (b c n : Nat), Strs W a b 0 ts → ts.length = n → n ≤ c → Calls Tryz.prog 51 #[.slice a n c] W fun e w' => e = leftV ∧ Below W.heap.size W w') := hT
  clear hT hs
  have hB0 := boxT_new w
  have BB0 : Hid (Below w.heap.size w ((w.alloc (.cells #[.int .i64 0, .slice none 0 0, .int .i64 0] 81)).alloc (.cells #[.int .i64 0] 26))) := bel_tr (bel_al _ _) (bel_al _ _)
  obtain ⟨RB, hRB⟩ : ∃ RB, w.heap.size = RB := ⟨_, rfl⟩
  have HRB : Hid (w.heap.size = RB) := hRB
  rw [hRB] at hB0
  have HB0 : Hid (BoxT ((w.alloc (.cells #[.int .i64 0, .slice none 0 0, .int .i64 0] 81)).alloc (.cells #[.int .i64 0] 26)) RB 0 0 (.slice none 0 0) 0) := hB0
  clear hB0
  go_enter_defers Tryz.func50, Tryz.ntmps50
  go_wp2_with fail
  clear hRB
  generalize (w.alloc (.cells #[.int .i64 0, .slice none 0 0, .int .i64 0] 81)).alloc (.cells #[.int .i64 0] 26) = W2 at *
  refine (HS.out _).mono ?_
  rintro x w3 ⟨hx, b3⟩
  have BX3 : Hid (BoxT w3 RB 0 0 (.slice none 0 0) 0) := HB0.out.below b3
  have B3 : Hid (Below w.heap.size w w3) := bel_tr BB0.out b3
  have e0 := BX3.out.ce
  have fe0 := BX3.out.fe
  clear b3
  cases hsp : splitL s with
  | none =>
    rw [hsp] at hx
    replace hx : x = .returned (.tuple #[.slice none 0 0, .int .i64 2]) := hx
    subst hx
    go_wp2_with (go_at_call 94; refine (HF.out _).mono ?_; rintro x wy ⟨rfl, hwy⟩; have hwy2 := hwy.symm; clear hwy; subst hwy2)
    have BX4 : Hid (BoxT (w3.setCell ⟨RB + 1, 0, none⟩ (.int .i64 2)) RB 2 0 (.slice none 0 0) 0) := BX3.out.putE 2
    refine leaves_cons (f := 92) (args := #[.pointer (some ⟨RB + 1, 0, none⟩)]) (by simp) (by simp [go_sem]) ?_
    refine (catchT_panic BX4.out.ce BX4.out.fe []).mono ?_
    rintro e u' w' ⟨rfl, rfl, rfl⟩
    have BX5 := BX4.out.putE 2
    have k0 := BX5.c0
    have k1 := BX5.c1
    have k2 := BX5.c2
    have k3 := BX5.ce
    refine ⟨.tuple #[.agg #[.int .i64 0, .slice none 0 0, .int .i64 0], .int .i64 2], ?_, rfl, Below.setCell (Below.setCell B3.out (by have := HRB.out; show _ ≤ RB + 1; omega) _) (by have := HRB.out; show _ ≤ RB + 1; omega) _⟩
    simp only [results, Tryz.results50]
    simp [go_sem, k0, k1, k2, k3]
  | some ts =>
    rw [hsp] at hx
    obtain ⟨v, rfl, ho, hl, hsm⟩ := hx
    obtain ⟨a, c, b, rfl, hn, hc, hS, hbb⟩ := own_strs ho hsm hl
    obtain ⟨n, hnn⟩ : ∃ n, ts.length = n := ⟨_, rfl⟩
    rw [hnn] at hn hc hbb ⊢
    have BX4 : Hid (BoxT (w3.setCell ⟨RB + 1, 0, none⟩ (.int .i64 0)) RB 0 0 (.slice none 0 0) 0) := BX3.out.putE 0
    have B4 : Hid (Below w.heap.size w (w3.setCell ⟨RB + 1, 0, none⟩ (.int .i64 0))) := Below.setCell B3.out (by have := HRB.out; show _ ≤ RB + 1; omega) _
    have hRW : RB + 1 < W2.heap.size := World.block_lt_of_cell? _ _ HB0.out.ce
    have CT : Hid (Calls Tryz.prog 51 #[.slice a n c] (w3.setCell ⟨RB + 1, 0, none⟩ (.int .i64 0)) fun e w' => e = leftV ∧ Below (w3.setCell ⟨RB + 1, 0, none⟩ (.int .i64 0)).heap.size (w3.setCell ⟨RB + 1, 0, none⟩ (.int .i64 0)) w') :=
      HT.out ts hsp _ a b c n (strs_set hS (fun hp => by have := hbb (by omega); omega)) hnn hc
    have z0 := BX4.out.ce
    clear hS hbb ho hsm hl hRW hsp HT
    go_wp2_with (first
      | (go_at_call 94; refine (HY.out _).mono ?_; rintro x wy ⟨rfl, hwy⟩; have hwy2 := hwy.symm; clear hwy; subst hwy2)
      | (go_at_call 51; refine CT.out.mono ?_; rintro x w5 ⟨rfl, b5⟩; have BX5 : Hid (BoxT w5 RB 0 0 (.slice none 0 0) 0) := BX4.out.below b5; have B5 : Hid (Below w.heap.size w w5) := bel_tr B4.out b5; clear b5))
    refine leaves_cons (f := 92) (args := #[.pointer (some ⟨RB + 1, 0, none⟩)]) (by simp) (by simp [go_sem]) ?_
    refine (catchT_panic BX5.out.ce BX5.out.fe []).mono ?_
    rintro e u' w' ⟨rfl, rfl, rfl⟩
    have BX6 := BX5.out.putE 2
    have k0 := BX6.c0
    have k1 := BX6.c1
    have k2 := BX6.c2
    have k3 := BX6.ce
    refine ⟨.tuple #[.agg #[.int .i64 0, .slice none 0 0, .int .i64 0], .int .i64 2], ?_, rfl, Below.setCell B5.out (by have := HRB.out; show _ ≤ RB + 1; omega) _⟩
    simp only [results, Tryz.results50]
    simp [go_sem, k0, k1, k2, k3]

theorem BoxT.sets {W : World} {b : Nat} {er : Int} {ep : Int} {s : Value} {ee : Int} (h : BoxT W b er ep s ee) (ep' : Int) (s' : Value) (ee' : Int) : BoxT (((W.setCell ⟨b, 0, none⟩ (.int .i64 ep')).setCell ⟨b, 1, none⟩ s').setCell ⟨b, 2, none⟩ (.int .i64 ee')) b er ep' s' ee' :=
  ⟨cell_set (by omega) (cell_set (by omega) (World.cell?_setCell_same _ _ _ h.c0)), cell_set (by omega) (World.cell?_setCell_same _ _ _ (cell_set (by omega) h.c1)), World.cell?_setCell_same _ _ _ (cell_set (by omega) (cell_set (by omega) h.c2)),
    other (by omega) (other (by omega) (other (by omega) h.ce)), fun j => by rw [World.frozen?_setCell, World.frozen?_setCell, World.frozen?_setCell]; exact h.fr j, by rw [World.frozen?_setCell, World.frozen?_setCell, World.frozen?_setCell]; exact h.fe⟩
set_option maxRecDepth 100000 in
set_option maxHeartbeats 2000000 in
/-- It comes to its end. -/
theorem takenT_yes (s : ByteArray) (hs : s.size ≤ maxLen) (w : World) {ts : List ByteArray} (hsp : splitL s = some ts) (ep er : Int) (es : List En) (hT : ∀ (W : World) (a : Option Addr) (b c n : Nat), Strs W a b 0 ts → ts.length = n → n ≤ c → Calls Tryz.prog 51 #[.slice a n c] W fun e w' => TldR W.heap.size ep er es e w' ∧ Below W.heap.size W w') :
    Calls Tryz.prog 50 #[.string s, .func (.func 51) #[] #[]] w fun e w' => TkT w.heap.size ep er es e w' ∧ Below w.heap.size w w' := by
  have hmf : ∀ (fn : Fn) (first cap : Array Value) (w : World), (Instr.makeFunc fn first cap).run Tryz.prog w = .ok (.func fn first cap) w := fun _ _ _ _ => rfl
  have hst := fun (w : World) (a : Addr) (x : ByteArray) (m : Mode) => run_store (P := Tryz.prog) w a (.string x) m rfl
  have hst2 : ∀ (w : World) (a : Addr) (x : Option Addr) (n c : Nat) (m : Mode), (store a (.slice x n c) m).run Tryz.prog w = stored Tryz.prog w a (.slice x n c) m := fun w a x n c m => run_store (P := Tryz.prog) w a _ m rfl
  have HS : Hid (∀ W, Calls Tryz.prog 93 #[.string s] W fun e w' => SplitEnds W.heap.size (.int .i64 0) (.int .i64 2) (splitL s) e w' ∧ Below W.heap.size W w') := fun W => split_any s W hs
  have HY : Hid (∀ W, Calls Tryz.prog 94 #[.bool true] W fun e w' => e = .returned (.tuple #[]) ∧ w' = W) := need_yes
  have HT : Hid (∀ (W : World) (a : Option Addr) (b c n : Nat), Strs W a b 0 ts → ts.length = n → n ≤ c → Calls Tryz.prog 51 #[.slice a n c] W fun e w' => TldR W.heap.size ep er es e w' ∧ Below W.heap.size W w') := hT
  have HSP : Hid (splitL s = some ts) := hsp
  clear hT hs hsp
  have hB0 := boxT_new w
  have BB0 : Hid (Below w.heap.size w ((w.alloc (.cells #[.int .i64 0, .slice none 0 0, .int .i64 0] 81)).alloc (.cells #[.int .i64 0] 26))) := bel_tr (bel_al _ _) (bel_al _ _)
  obtain ⟨RB, hRB⟩ : ∃ RB, w.heap.size = RB := ⟨_, rfl⟩
  have HRB : Hid (w.heap.size = RB) := hRB
  rw [hRB] at hB0
  have HB0 : Hid (BoxT ((w.alloc (.cells #[.int .i64 0, .slice none 0 0, .int .i64 0] 81)).alloc (.cells #[.int .i64 0] 26)) RB 0 0 (.slice none 0 0) 0) := hB0
  clear hB0
  go_enter_defers Tryz.func50, Tryz.ntmps50
  go_wp2_with fail
  clear hRB
  generalize (w.alloc (.cells #[.int .i64 0, .slice none 0 0, .int .i64 0] 81)).alloc (.cells #[.int .i64 0] 26) = W2 at *
  refine (HS.out _).mono ?_
  rintro x w3 ⟨hx, b3⟩
  have BX3 : Hid (BoxT w3 RB 0 0 (.slice none 0 0) 0) := HB0.out.below b3
  have B3 : Hid (Below w.heap.size w w3) := bel_tr BB0.out b3
  have e0 := BX3.out.ce
  have fe0 := BX3.out.fe
  clear b3
  rw [HSP.out] at hx
  obtain ⟨v, rfl, ho, hl, hsm⟩ := hx
  obtain ⟨a, c, b, rfl, hn, hc, hS, hbb⟩ := own_strs ho hsm hl
  obtain ⟨n, hnn⟩ : ∃ n, ts.length = n := ⟨_, rfl⟩
  rw [hnn] at hn hc hbb ⊢
  have BX4 : Hid (BoxT (w3.setCell ⟨RB + 1, 0, none⟩ (.int .i64 0)) RB 0 0 (.slice none 0 0) 0) := BX3.out.putE 0
  have B4 : Hid (Below w.heap.size w (w3.setCell ⟨RB + 1, 0, none⟩ (.int .i64 0))) := Below.setCell B3.out (by have := HRB.out; show _ ≤ RB + 1; omega) _
  have hRW : RB + 1 < W2.heap.size := World.block_lt_of_cell? _ _ HB0.out.ce
  have HGE : Hid (RB + 1 < (w3.setCell ⟨RB + 1, 0, none⟩ (.int .i64 0)).heap.size) := World.block_lt_of_cell? _ _ BX4.out.ce
  have CT : Hid (Calls Tryz.prog 51 #[.slice a n c] (w3.setCell ⟨RB + 1, 0, none⟩ (.int .i64 0)) fun e w' => TldR (w3.setCell ⟨RB + 1, 0, none⟩ (.int .i64 0)).heap.size ep er es e w' ∧ Below (w3.setCell ⟨RB + 1, 0, none⟩ (.int .i64 0)).heap.size (w3.setCell ⟨RB + 1, 0, none⟩ (.int .i64 0)) w') :=
    HT.out _ a b c n (strs_set hS (fun hp => by have := hbb (by omega); omega)) hnn hc
  have z0 := BX4.out.ce
  clear hS hbb ho hsm hl hRW HT
  go_wp2_with (first
    | (go_at_call 94; refine (HY.out _).mono ?_; rintro x wy ⟨rfl, hwy⟩; have hwy2 := hwy.symm; clear hwy; subst hwy2)
    | (go_at_call 51; refine CT.out.mono ?_; rintro x w5 ⟨⟨ea, ec, eg, hxe, hC⟩, b5⟩; subst hxe; have BX5 : Hid (BoxT w5 RB 0 0 (.slice none 0 0) 0) := BX4.out.below b5; have B5 : Hid (Below w.heap.size w w5) := bel_tr B4.out b5; have HC5 : Hid (Cel (fun q => RB + 1 < q) w5 2 (.slice ea es.length ec) es.length (rowC enC es) eg) := hC.stay (Nat.le_refl _) (fun _ _ => rfl) (fun q hq => Nat.lt_of_lt_of_le HGE.out hq); clear b5 hC z0 e0 fe0; have y0 := BX5.out.c0; have y1 := BX5.out.c1; have y2 := BX5.out.c2; have ye := BX5.out.ce; have f0 := BX5.out.fr 0; have f1 := BX5.out.fr 1; have f2 := BX5.out.fr 2; have fe := BX5.out.fe))
  have BX6 : Hid (BoxT (((w5.setCell ⟨RB, 0, none⟩ (.int .i64 ep)).setCell ⟨RB, 1, none⟩ (.slice ea es.length ec)).setCell ⟨RB, 2, none⟩ (.int .i64 er)) RB 0 ep (.slice ea es.length ec) er) := BX5.out.sets ep (.slice ea es.length ec) er
  have BX7 : Hid (BoxT ((((w5.setCell ⟨RB, 0, none⟩ (.int .i64 ep)).setCell ⟨RB, 1, none⟩ (.slice ea es.length ec)).setCell ⟨RB, 2, none⟩ (.int .i64 er)).setCell ⟨RB + 1, 0, none⟩ (.int .i64 0)) RB 0 ep (.slice ea es.length ec) er) := BX6.out.putE 0
  have hs7 : Stay (fun q => q = RB ∨ q = RB + 1) w5 ((((w5.setCell ⟨RB, 0, none⟩ (.int .i64 ep)).setCell ⟨RB, 1, none⟩ (.slice ea es.length ec)).setCell ⟨RB, 2, none⟩ (.int .i64 er)).setCell ⟨RB + 1, 0, none⟩ (.int .i64 0)) :=
    (Stay.to (stay_sets w5 RB _ _ _) (fun q hq => .inl hq)).then_same (Stay.to (stay_set _ (RB + 1) 0 _) (fun q hq => .inr hq))
  have HB7 : Hid (Below w.heap.size w ((((w5.setCell ⟨RB, 0, none⟩ (.int .i64 ep)).setCell ⟨RB, 1, none⟩ (.slice ea es.length ec)).setCell ⟨RB, 2, none⟩ (.int .i64 er)).setCell ⟨RB + 1, 0, none⟩ (.int .i64 0))) := B5.out.trans (hs7.below B5.out.size (fun q hq => by have := HRB.out; omega))
  have HC7 : Hid (Cel (fun q => w.heap.size ≤ q) ((((w5.setCell ⟨RB, 0, none⟩ (.int .i64 ep)).setCell ⟨RB, 1, none⟩ (.slice ea es.length ec)).setCell ⟨RB, 2, none⟩ (.int .i64 er)).setCell ⟨RB + 1, 0, none⟩ (.int .i64 0)) 2 (.slice ea es.length ec) es.length (rowC enC es) eg) :=
    HC5.out.stay hs7.size (fun q hq => hs7.block q (by have h9 := HC5.out; rw [hq] at h9; exact h9.lt.1) (fun e => by have h9 := HC5.out; rw [hq] at h9; have h8 : RB + 1 < q := h9.lt.2; omega)) (fun q hq => by have h9 : RB + 1 < q := hq; have := HRB.out; omega)
  clear y0 y1 y2 ye f0 f1 f2 fe hs7 BX6 BX5 HC5 B5
  generalize ((((w5.setCell ⟨RB, 0, none⟩ (.int .i64 ep)).setCell ⟨RB, 1, none⟩ (.slice ea es.length ec)).setCell ⟨RB, 2, none⟩ (.int .i64 er)).setCell ⟨RB + 1, 0, none⟩ (.int .i64 0)) = W7 at *
  refine leaves_cons (f := 92) (args := #[.pointer (some ⟨RB + 1, 0, none⟩)]) (by simp) (by simp [go_sem]) ?_
  refine catchT_idle.mono ?_
  rintro e u' w' ⟨rfl, rfl, rfl⟩
  have k0 := BX7.out.c0
  have k1 := BX7.out.c1
  have k2 := BX7.out.c2
  have k3 := BX7.out.ce
  refine ⟨.tuple #[.agg #[.int .i64 ep, .slice ea es.length ec, .int .i64 er], .int .i64 0], ?_, ⟨_, _, _, rfl, HC7.out⟩, HB7.out⟩
  simp only [results, Tryz.results50]
  simp [go_sem, k0, k1, k2, k3]


/-- What becomes of bytes that are to be an answer. -/
def TtO (base : Nat) (r : Option (Lg × Int)) (e : Ending) (w' : World) : Prop := match r with
  | none => e = .returned (.tuple #[.agg #[.int .i64 0, .slice none 0 0, .int .i64 0], .int .i64 2])
  | some (l, er) => TkT base l.ep er l.es e w'
def ansS (s : ByteArray) : Option (Lg × Int) := match splitL s with
  | none => none
  | some ts => ansP ts
theorem takenT_any (s : ByteArray) (hs : s.size ≤ maxLen) (w : World) : Calls Tryz.prog 50 #[.string s, .func (.func 51) #[] #[]] w fun e w' => TtO w.heap.size (ansS s) e w' ∧ Below w.heap.size w w' := by
  cases hr : ansS s with
  | none =>
    refine takenT_no s hs w (fun ts hts W a b c n hS hn hc => ?_)
    have h1 : ansP ts = none := by unfold ansS at hr; rw [hts] at hr; exact hr
    have h2 := takeAnswer_any hS n c hn hc (by have := split_len hts; omega) (split_small hts)
    rw [h1] at h2
    exact h2
  | some r =>
    obtain ⟨l, er⟩ := r
    cases hts : splitL s with
    | none => unfold ansS at hr; rw [hts] at hr; cases hr
    | some ts =>
      refine takenT_yes s hs w hts l.ep er l.es (fun W a b c n hS hn hc => ?_)
      have h1 : ansP ts = some (l, er) := by unfold ansS at hr; rw [hts] at hr; exact hr
      have h2 := takeAnswer_any hS n c hn hc (by have := split_len hts; omega) (split_small hts)
      rw [h1] at h2
      exact h2
theorem ansP_err {ts : List ByteArray} {l : Lg} {er : Int} (h : ansP ts = some (l, er)) (he : er ≠ 0) : l = ⟨0, []⟩ := by
  unfold ansP at h
  split at h
  · cases h
  · split at h
    · cases h
    · split at h
      · split at h
        · cases h; rfl
        · split at h
          · unfold logP at h
            split at h
            · split at h
              · cases h; exact absurd rfl he
              · cases h
            · cases h
          · cases h
      · cases h
theorem toldP_of (s : ByteArray) : toldP s = (match ansS s with | none => (⟨0, []⟩, 2) | some r => r) := by
  unfold toldP ansS
  cases splitL s with
  | none => rfl
  | some ts => rfl
theorem toldP_err {s : ByteArray} (h : (toldP s).2 ≠ 0) : (toldP s).1 = ⟨0, []⟩ := by
  unfold toldP at h ⊢
  split
  · rfl
  · rename_i ts hts
    rw [hts] at h
    simp only at h ⊢
    split
    · rfl
    · rename_i r hr
      rw [hr] at h
      exact ansP_err (l := r.1) (er := r.2) hr h
/-- A log, and an error; the log's row is the call's own. -/
structure LgE (base : Nat) (l : Lg) (er : Int) (e : Ending) (w' : World) : Prop where
  ex : ∃ a c g, e = .returned (.tuple #[.agg #[.int .i64 l.ep, .slice a l.es.length c], .int .i64 er]) ∧ Cel (fun q => base ≤ q) w' 2 (.slice a l.es.length c) l.es.length (rowC enC l.es) g

set_option maxRecDepth 100000 in
set_option maxHeartbeats 2000000 in
theorem told_val (s : ByteArray) (hs : s.size ≤ maxLen) (w : World) : Calls Tryz.prog 14 #[.string s] w fun e w' => LgE w.heap.size (toldP s).1 (toldP s).2 e w' ∧ Below w.heap.size w w' := by
  have hst2 : ∀ (w : World) (a : Addr) (x : Option Addr) (n c : Nat) (m : Mode), (store a (.slice x n c) m).run Tryz.prog w = stored Tryz.prog w a (.slice x n c) m := fun w a x n c m => run_store (P := Tryz.prog) w a _ m rfl
  have CT : Hid (∀ W, Calls Tryz.prog 50 #[.string s, .func (.func 51) #[] #[]] W fun e w' => TtO W.heap.size (ansS s) e w' ∧ Below W.heap.size W w') := fun W => takenT_any s hs W
  have hof := toldP_of s
  have herr := @toldP_err s
  obtain ⟨q0, q1, f0, f1⟩ := cells2 w (.int .i64 0) (.slice none 0 0) 34
  have B1 : Hid (Below w.heap.size w (w.alloc (.cells #[.int .i64 0, .slice none 0 0] 34))) := bel_al _ _
  have hz1 : (w.alloc (.cells #[.int .i64 0, .slice none 0 0] 34)).heap.size = w.heap.size + 1 := by simp
  obtain ⟨⟨l, er⟩, hP⟩ : ∃ x, toldP s = x := ⟨_, rfl⟩
  rw [hP] at hof herr ⊢
  simp only at herr ⊢
  clear hP
  obtain ⟨RB, hRB⟩ : ∃ RB, w.heap.size = RB := ⟨_, rfl⟩
  have HRB : Hid (w.heap.size = RB) := hRB
  simp only [hRB] at q0 q1 f0 f1
  go_enter Tryz.func14, Tryz.ntmps14
  go_upto_region 1 with fail
  try simp only [hRB]
  generalize w.alloc (.cells #[.int .i64 0, .slice none 0 0] 34) = W1 at *
  have HZ1 : Hid (W1.heap.size = w.heap.size + 1) := hz1
  clear hz1 hRB
  have ENDS : Hid (∀ (W : World) (ep : Int) (a : Option Addr) (n c : Nat) (es : List En) (g : Option Nat), es.length = n → Below W1.heap.size W1 W → Cel (fun q => RB < q) W 2 (.slice a n c) n (rowC enC es) g → ((W.setCell ⟨RB, 0, none⟩ (.int .i64 ep)).setCell ⟨RB, 1, none⟩ (.slice a n c)).cell? ⟨RB, 0, none⟩ = some (.int .i64 ep) ∧ ((W.setCell ⟨RB, 0, none⟩ (.int .i64 ep)).setCell ⟨RB, 1, none⟩ (.slice a n c)).cell? ⟨RB, 1, none⟩ = some (.slice a n c) ∧ Cel (fun q => w.heap.size ≤ q) ((W.setCell ⟨RB, 0, none⟩ (.int .i64 ep)).setCell ⟨RB, 1, none⟩ (.slice a n c)) 2 (.slice a es.length c) es.length (rowC enC es) g ∧ Below w.heap.size w ((W.setCell ⟨RB, 0, none⟩ (.int .i64 ep)).setCell ⟨RB, 1, none⟩ (.slice a n c))) := by
    intro W ep a n c es g hn hb hC
    subst hn
    obtain ⟨z0, z1⟩ := two_set (u' := .int .i64 ep) (v' := .slice a es.length c) (bel_cell hb q0) (bel_cell hb q1)
    have hs : Stay (fun q => q = RB) W ((W.setCell ⟨RB, 0, none⟩ (.int .i64 ep)).setCell ⟨RB, 1, none⟩ (.slice a es.length c)) := (stay_set W RB 0 _).then_same (stay_set _ RB 1 _)
    have hb2 := bel_tr B1.out hb
    have h2 := HRB.out
    exact ⟨z0, z1, hC.stay hs.size (fun q hq => hs.block q (by rw [hq] at hC; exact hC.lt.1) (fun e => by rw [hq] at hC; have h9 : RB < q := hC.lt.2; omega)) (fun q hq => by have h9 : RB < q := hq; omega), hb2.trans (hs.below hb2.size (fun q hq => by omega))⟩
  have F0 : Hid (∀ W, Below W1.heap.size W1 W → W.cell? ⟨RB, 0, none⟩ = some (.int .i64 0) ∧ W.cell? ⟨RB, 1, none⟩ = some (.slice none 0 0) ∧ W.frozen? ⟨RB, 0, none⟩ = false ∧ W.frozen? ⟨RB, 1, none⟩ = false) := fun W hb => ⟨bel_cell hb q0, bel_cell hb q1, (World.frozen?_of_block (a := ⟨RB, 0, none⟩) (hb.block RB (World.block_lt_of_cell? _ _ q0))).trans f0, (World.frozen?_of_block (a := ⟨RB, 1, none⟩) (hb.block RB (World.block_lt_of_cell? _ _ q0))).trans f1⟩
  clear q0 q1 f0 f1
  cases hA : ansS s with
  | none =>
    rw [hA] at CT hof
    cases hof
    clear hA herr
    go_wp2_with (go_at_call 50; refine (CT.out _).mono ?_; rintro x w2 ⟨hx, b2⟩; replace hx : x = .returned (.tuple #[.agg #[.int .i64 0, .slice none 0 0, .int .i64 0], .int .i64 2]) := hx; subst hx; have B2 : Hid (Below W1.heap.size W1 (w2.alloc (.cells #[.int .i64 0, .slice none 0 0, .int .i64 0] 81))) := bel_tr b2 (bel_al _ _); clear b2; obtain ⟨z0, z1, f0, f1⟩ := F0.out _ B2.out)
    obtain ⟨k0, k1, k2, k3⟩ := ENDS.out _ 0 none 0 0 [] none rfl B2.out (.nil rfl rfl rfl)
    refine bodyPost_ret (v := .tuple #[.agg #[.int .i64 0, .slice none 0 0], .int .i64 2]) ?_ rfl ⟨⟨_, _, _, rfl, k2⟩, k3⟩
    simp only [results, Tryz.results14]
    simp [go_sem, k0, k1]
  | some r =>
    rw [hA] at CT hof
    simp only at hof
    subst hof
    obtain ⟨ep, es⟩ := l
    obtain ⟨n, hn⟩ : ∃ n, es.length = n := ⟨_, rfl⟩
    have HN : Hid (es.length = n) := hn
    clear hA hn herr
    replace CT : Hid (∀ W, Calls Tryz.prog 50 #[.string s, .func (.func 51) #[] #[]] W fun e w' => TkT W.heap.size ep er es e w' ∧ Below W.heap.size W w') := CT
    go_upto_region 2 with (go_at_call 50; refine (CT.out _).mono ?_; rintro x w2 ⟨⟨a, c, g, hx, hC⟩, b2⟩; rw [HN.out] at hx hC; subst hx; have B2 : Hid (Below W1.heap.size W1 w2) := b2; have HC2 : Hid (Cel (fun q => W1.heap.size ≤ q) w2 2 (.slice a n c) n (rowC enC es) g) := hC; clear b2 hC)
    have B3 : Hid (Below W1.heap.size W1 (w2.alloc (.cells #[.int .i64 ep, .slice a n c, .int .i64 er] 81))) := bel_tr B2.out (bel_al _ _)
    have HC3 : Hid (Cel (fun q => RB < q) (w2.alloc (.cells #[.int .i64 ep, .slice a n c, .int .i64 er] 81)) 2 (.slice a n c) n (rowC enC es) g) := (HC2.out.below (bel_al _ _)).stay (Nat.le_refl _) (fun _ _ => rfl) (fun z hz => by have h9 : W1.heap.size ≤ z := hz; have := HZ1.out; have := HRB.out; omega)
    have y0 := World.cell?_alloc_new w2 #[.int .i64 ep, .slice a n c, .int .i64 er] 81 0
    have y1 := World.cell?_alloc_new w2 #[.int .i64 ep, .slice a n c, .int .i64 er] 81 1
    have y2 := World.cell?_alloc_new w2 #[.int .i64 ep, .slice a n c, .int .i64 er] 81 2
    have y0' : (w2.alloc (.cells #[.int .i64 ep, .slice a n c, .int .i64 er] 81)).cell? ⟨w2.heap.size, 0, none⟩ = some (.int .i64 ep) := y0
    have y1' : (w2.alloc (.cells #[.int .i64 ep, .slice a n c, .int .i64 er] 81)).cell? ⟨w2.heap.size, 1, none⟩ = some (.slice a n c) := y1
    have y2' : (w2.alloc (.cells #[.int .i64 ep, .slice a n c, .int .i64 er] 81)).cell? ⟨w2.heap.size, 2, none⟩ = some (.int .i64 er) := y2
    clear y0 y1 y2 HC2 B2
    generalize w2.alloc (.cells #[.int .i64 ep, .slice a n c, .int .i64 er] 81) = W3 at *
    generalize w2.heap.size = TB at *
    obtain ⟨z0, z1, f0, f1⟩ := F0.out _ B3.out
    go_upto_region 4 with fail
    go_region
    go_wp2
    obtain ⟨k0, k1, k2, k3⟩ := ENDS.out _ ep a n c es g HN.out B3.out HC3.out
    have k4 := k2.below (bel_dr1' _)
    have k5 := bel_tr k3 (bel_dr1' _)
    refine bodyPost_ret (v := .tuple #[.agg #[.int .i64 ep, .slice a n c], .int .i64 er]) ?_ rfl ⟨⟨a, c, g, by simp only [HN.out], k4⟩, k5⟩
    simp only [results, Tryz.results14]
    simp [go_sem, k0, k1]

end Go.Proofs.YtfmhmokbbkliaaaGreat.Jrn

/- Plain: a node's files behind a crash; it is opened anew; what it had is there. -/
namespace Go.Proofs.YtfmhmokbbkliaaaGreat.Jrn
open Go.Proofs.YtfmhmokbbkliaaaGreat Go.Proofs.YtfmhmokbbkliaaaGreat.Wir Go.Proofs.YtfmhmokbbkliaaaGreat.Lgg
set_option linter.unusedVariables false

/-! ### a crash -/
theorem crash_len {S : FS} (hS : Rise S) (ks : List Int) (n : List UInt8) : flen (fget (crashL ks S) n) ≤ flen (fget S n) := by
  obtain ⟨c, hc⟩ := fget_crashL hS ks n
  rw [hc]
  cases fget S n with
  | none => exact Nat.le_refl _
  | some f =>
    simp only
    split
    · exact Nat.zero_le _
    · show (f.1.take _).length ≤ f.1.length
      rw [List.length_take]; omega
theorem crash_none {S : FS} (hS : Rise S) (ks : List Int) {n : List UInt8} (h : fget S n = none) : fget (crashL ks S) n = none := by
  obtain ⟨c, hc⟩ := fget_crashL hS ks n
  rw [hc, h]
theorem crash_full {S : FS} (hS : Rise S) (ks : List Int) {n A : List UInt8} (hA : A ≠ []) (h : fget S n = some (A, A.length)) : fget (crashL ks S) n = some (A, A.length) := by
  obtain ⟨c, hc⟩ := fget_crashL hS ks n
  rw [hc, h]
  simp only
  rw [cut_all, if_neg (fun e => hA (List.length_eq_zero_iff.1 e)), List.take_length]
theorem crash_torn {S : FS} (hS : Rise S) (ks : List Int) {n A E : List UInt8} (hA : A ≠ []) (h : fget S n = some (A ++ E, A.length)) : ∃ k, k ≤ E.length ∧ fget (crashL ks S) n = some (A ++ E.take k, A.length + k) := by
  obtain ⟨c, hc⟩ := fget_crashL hS ks n
  have hcut : cutN (A ++ E, A.length) c = A.length + keepN c % (E.length + 1) := by unfold cutN; simp
  have hk := Nat.mod_lt (keepN c) (show 0 < E.length + 1 by omega)
  have h0 : ¬ A.length = 0 := fun e => hA (List.length_eq_zero_iff.1 e)
  refine ⟨keepN c % (E.length + 1), by omega, ?_⟩
  rw [hc, h]
  simp only
  rw [hcut, if_neg (by omega), List.take_length_add_append]
theorem crash_keys {S : FS} (h : Keys S) (ks : List Int) : Keys (crashL ks S) := fun p hp => by
  obtain ⟨q, h1, h2, _⟩ := mem_crashL hp
  rw [h2]; exact h q h1
theorem enc_ne (l : Lg) : encB l ≠ [] := fun e => by
  have h1 := encL_pos l
  have h2 := encB_len l
  rw [e] at h2
  simp at h2; omega
theorem crash_fil {N : Nat} {S : FS} {p : Int} (h : Fil N S p) (ks : List Int) : Fil N (crashL ks S) p :=
  ⟨rise_crashL h.rise ks, crash_keys h.keys ks, h.pr.elim (fun ⟨a, b⟩ => .inl ⟨a, crash_none h.rise ks b⟩) (fun ⟨a, b⟩ => .inr ⟨a, crash_full h.rise ks (enc_ne _) b⟩), Nat.le_trans (crash_len h.rise ks _) h.np, Nat.le_trans (crash_len h.rise ks _) h.nl⟩

/-! ### what is read -/
theorem rd_some {ds : DS} (hd : ds.down = false) {n A : List UInt8} {a : Nat} (h : fget ds.S n = some (A, a)) : rdE ds n = 0 ∧ rdT ds n = ⟨A.toArray⟩ := by
  rw [rdE_eq _ hd, rdT_eq _ hd]
  refine ⟨refM_some h, ?_⟩
  unfold fdat
  rw [h]
theorem rd_none {ds : DS} (hd : ds.down = false) {n : List UInt8} (h : fget ds.S n = none) : rdE ds n = 5 := by
  rw [rdE_eq _ hd]; exact refM_none h
theorem load_none (b : ByteArray) : loadS b 5 = (⟨0, []⟩, false, 5) := by unfold loadS; rw [if_neg (by omega)]
theorem load_some {b R : ByteArray} {l : Lg} (h : parseL b = some (l, R)) : loadS b 0 = (l, decide (R.size = 0), 0) := by unfold loadS; rw [if_pos rfl, h]
theorem load_whole {l : Lg} (h : RtL l) : loadS (encL l) 0 = (l, true, 0) := by rw [load_some (parse_whole h)]; rfl
theorem ldP_fil {N : Nat} {ds : DS} {p : Int} (hd : ds.down = false) (h : Fil N ds.S p) : ldP ds = (0, p) := by
  unfold ldP
  rcases h.pr with ⟨hp, hg⟩ | ⟨h1, hg⟩
  · rw [rd_none hd hg, load_none, hp]; rfl
  · obtain ⟨e1, e2⟩ := rd_some hd hg
    rw [e1, e2, mk_list, load_whole (rt_ep (epR_ok h1))]
    simp only
    rw [if_neg (by omega), if_pos trivial, if_pos ⟨trivial, rfl, ((epR_iff p).1 h1).1⟩]
theorem ldL_none {ds : DS} (hd : ds.down = false) (h : fget ds.S lgL = none) : ldL ds = (0, ⟨0, []⟩, ds) := by
  unfold ldL
  rw [rd_none hd h, load_none]; rfl
theorem ldL_some {ds : DS} (hd : ds.down = false) {l : Lg} (hl : RtL l) {a : Nat} (h : fget ds.S lgL = some (encB l, a)) : ldL ds = (0, l, ds) := by
  unfold ldL
  obtain ⟨e1, e2⟩ := rd_some hd h
  rw [e1, e2, mk_list, load_whole hl]; rfl
theorem fil_ok {N : Nat} {S : FS} {p : Int} (h : Fil N S p) : epOk p = true := by
  rcases h.pr with ⟨rfl, _⟩ | ⟨h1, _⟩
  · rfl
  · exact epR_ok h1

/-- What a node has that is opened behind a crash. -/
structure Again (N : Nat) (S : FS) (p : Int) (l : Lg) : Prop where
  ex : ∃ ds' l', openQ ⟨400000, 0, false, S⟩ = (0, ds', ⟨p, l', false⟩) ∧ Dv N ds' ⟨p, l', false⟩ ∧ l'.ep = l.ep ∧ l'.es.take l.es.length = l.es
theorem again_of {N : Nat} {S : FS} {p : Int} (hF : Fil N S p) {l l' : Lg} {ds' : DS} (h : ldL ⟨400000, 0, false, S⟩ = (0, l', ds')) (hR : Run 400000 ds') (hF' : Fil N ds'.S p) (hL : LgF ds'.S l') (hl : RtL l') (h1 : l'.ep = l.ep) (h2 : l'.es.take l.es.length = l.es) : Again N S p l := by
  refine ⟨ds', l', ?_, ⟨hR, hF', hL, ⟨hl, fil_ok hF, fun e => by cases e⟩, rfl⟩, h1, h2⟩
  unfold openQ
  rw [ldP_fil (ds := ⟨400000, 0, false, S⟩) rfl hF, h]
  rfl
theorem run0 (S : FS) : Run 400000 ⟨400000, 0, false, S⟩ := ⟨rfl, rfl, by simp⟩
theorem ext_take (s : ByteArray) (k : Nat) : (s.extract 0 k).data.toList = s.data.toList.take k := cut_list s k
theorem bytes_of_list {s t : ByteArray} (h : s.data.toList = t.data.toList) : s = t := Go.WideShapes.bytes_inj h

theorem lost_open {N : Nat} (hN : N ≤ 187224) {ds : DS} {p : Int} {l : Lg} (h : Lost N ds p l) (ks : List Int) : Again N (crashL ks ds.S) p l := by
  have hF := crash_fil h.fil ks
  have htk : l.es.take l.es.length = l.es := List.take_length
  rcases h.lg with hL | ⟨x, hx, hL⟩
  · rcases hL with ⟨hl0, hg⟩ | hg
    · have hg2 := crash_none h.fil.rise ks hg
      refine again_of hF (ldL_none rfl hg2) (run0 _) hF (.inl ⟨rfl, hg2⟩) rt_none (by rw [hl0]) (by rw [hl0]; rfl)
    · have hg2 := crash_full h.fil.rise ks (enc_ne l) hg
      exact again_of hF (ldL_some rfl h.rt hg2) (run0 _) hF (.inr hg2) h.rt rfl htk
  · obtain ⟨k, hk, hg⟩ := crash_torn h.fil.rise ks (enc_ne l) hL
    have hel : (encE x).data.toList.length = (encE x).size := Wir.size_list _
    rcases Nat.lt_or_ge k (encE x).size with h1 | h1
    · have hb : (⟨(encB l ++ (encE x).data.toList.take k).toArray⟩ : ByteArray) = encL l ++ (encE x).extract 0 k := bytes_of_list (by rw [app_list, ext_take])
      obtain ⟨e1, e2⟩ := rd_some (ds := ⟨400000, 0, false, crashL ks ds.S⟩) rfl hg
      rw [hb] at e2
      have hsz : ((encE x).extract 0 k).size = k := by rw [ByteArray.size_extract]; omega
      have hld := load_some (parse_torn h.rt x k h1)
      rw [hsz] at hld
      by_cases hk0 : k = 0
      · subst hk0
        rw [List.take_zero, List.append_nil] at hg
        exact again_of hF (ldL_some rfl h.rt hg) (run0 _) hF (.inr hg) h.rt rfl htk
      · have hxo := hx.2.2 l.es.length (by simp)
        simp only [List.getElem_concat_length] at hxo
        have hl3 := hx.2.1
        simp only [List.length_append, List.length_singleton] at hl3
        have hz := encE_size (x := x) (by have := hxo.1; omega) (by have := hxo.1; omega) hxo.2
        have ht := enc_top h.rt
        have hbl := encB_len l
        obtain ⟨e, ds', hq, hw⟩ := sto_lg (N := N) (run0 (crashL ks ds.S)) hF h.rt (by
          show ((flen (fget (crashL ks ds.S) lgL) + 48 + (encL l).size : Nat) : Int) ≤ 400000
          rw [hg]
          show (((encB l ++ (encE x).data.toList.take k).length + 48 + (encL l).size : Nat) : Int) ≤ 400000
          rw [List.length_append, List.length_take]
          omega) (fun e => absurd rfl e)
        rcases hw with ⟨rfl, k1, k2, k3⟩ | ⟨rfl, k1, _, _⟩
        · refine again_of hF (l' := l) (ds' := ds') ?_ ⟨k1.room, k1.up, k1.fu⟩ k2 (.inr k3) h.rt rfl htk
          unfold ldL
          rw [e1, e2, hld]
          simp only [decide_eq_false hk0]
          rw [if_neg (by omega), if_pos trivial, if_neg (by simp), hq]
          rfl
        · exact absurd rfl k1.f0
    · have hk2 : (encE x).data.toList.take k = (encE x).data.toList := List.take_of_length_le (by omega)
      have hsn : encB l ++ (encE x).data.toList = encB ⟨l.ep, l.es ++ [x]⟩ := by
        show (encL l).data.toList ++ _ = (encL ⟨l.ep, l.es ++ [x]⟩).data.toList
        rw [encL_snoc, Wir.app_list]
      have hlen : encB l ++ (encE x).data.toList = encB ⟨l.ep, l.es ++ [x]⟩ → (encB l).length + k = (encB ⟨l.ep, l.es ++ [x]⟩).length := fun e => by
        rw [← e, List.length_append]; omega
      rw [hk2, hlen hsn, hsn] at hg
      exact again_of hF (ldL_some rfl hx hg) (run0 _) hF (.inr hg) hx rfl (by simp)

/-! ### nothing gets less -/
/-- What a node had is in what it has. -/
structure More (j j' : Nd) : Prop where
  p : j.p ≤ j'.p
  ep : j.l.ep ≤ j'.l.ep
  es : j'.l.ep = j.l.ep → j'.l.es.take j.l.es.length = j.l.es
  below : j'.l.ep ≤ j'.p
theorem More.refl {j : Nd} (h : j.l.ep ≤ j.p) : More j j := ⟨Int.le_refl _, Int.le_refl _, fun _ => List.take_length, h⟩
theorem prom_more {ds : DS} {j : Nd} {ep : Int} (h : j.l.ep ≤ j.p) (hg : (promQ ds j ep).j.gone = false) : More j (promQ ds j ep).j := by
  unfold promQ at hg ⊢
  split
  · exact .refl h
  · rename_i h1
    rw [if_neg h1] at hg
    split
    · exact ⟨by simp only; omega, Int.le_refl _, fun _ => List.take_length, by simp only; omega⟩
    · rename_i h2
      rw [if_neg h2] at hg
      cases hg
theorem fresh_more {ds : DS} {j j0 : Nd} {ep : Int} {es : List En} (hp : j0.p ≤ j.p) (he : j.p = ep) (hl : j0.l.ep ≤ j0.p) (hne : ep ≠ j0.l.ep) (hg : (fresh ds j ep es).j.gone = false) : More j0 (fresh ds j ep es).j := by
  unfold fresh at hg ⊢
  split
  · exact ⟨hp, by simp only; omega, fun e => absurd e hne, by simp only; omega⟩
  · rename_i h2
    rw [if_neg h2] at hg
    cases hg
theorem acc_more {ds : DS} {j : Nd} {ep : Int} {es : List En} (ha : j.gone = false) (h : j.l.ep ≤ j.p) (hg : (accQ ds j ep es).j.gone = false) : More j (accQ ds j ep es).j := by
  unfold accQ at hg ⊢
  split
  · exact .refl h
  · rename_i h1
    rw [if_neg h1] at hg
    split
    · exact .refl h
    · rename_i h2
      rw [if_neg h2] at hg
      split
      · rename_i h3
        rw [if_pos h3] at hg
        split
        · rename_i h4
          rw [if_pos h4] at hg
          have hon := promQ_on ha h4
          exact fresh_more (by rw [hon]; simp only; omega) (by rw [hon]) h h2 hg
        · rename_i h4
          rw [if_neg h4] at hg
          exact prom_more h hg
      · rename_i h3
        rw [if_neg h3] at hg
        exact fresh_more (Int.le_refl _) (by omega) h h2 hg
theorem add_more {ds : DS} {j : Nd} {ep : Int} {x : En} (h : j.l.ep ≤ j.p) (hg : (addQ ds j ep x).j.gone = false) : More j (addQ ds j ep x).j := by
  unfold addQ at hg ⊢
  split
  · exact .refl h
  · rename_i h1
    rw [if_neg h1] at hg
    split
    · exact .refl h
    · rename_i h2
      rw [if_neg h2] at hg
      split
      · exact .refl h
      · rename_i h3
        rw [if_neg h3] at hg
        split
        · exact ⟨Int.le_refl _, Int.le_refl _, fun _ => by simp, h⟩
        · rename_i h4
          rw [if_neg h4] at hg
          cases hg
theorem hand_more {ds : DS} {j : Nd} (ha : j.gone = false) (h : j.l.ep ≤ j.p) (s : ByteArray) (hg : (handQ ds j s).j.gone = false) : More j (handQ ds j s).j := by
  have hn : ¬ j.gone = true := by rw [ha]; simp
  unfold handQ at hg ⊢
  rw [if_neg hn] at hg ⊢
  cases hr : readQ s with
  | none => exact .refl h
  | some r =>
    rw [hr] at hg
    simp only at hg ⊢
    cases r with
    | prom ep => exact prom_more h hg
    | acc ep es => exact acc_more ha h hg
    | add ep x => exact add_more h hg

/-- With a fuse. -/
theorem Dv.fuse {N : Nat} {ds : DS} {j : Nd} (h : Dv N ds j) {f : Int} (hf : 0 ≤ f) : Dv N { ds with fuse := f } j := ⟨⟨h.run.room, h.run.up, hf⟩, h.fil, h.lg, h.ok, h.alive⟩
end Go.Proofs.YtfmhmokbbkliaaaGreat.Jrn
