/- Part 38 of the proof: JrnG2, JrnV, JrnE, JrnX, JrnK, JrnB5, JrnG3, JrnG4, JrnL1, JrnL2, JrnA3. -/
import Derived.Test.YtfmhmokbbkliaaaGreatB22
import Derived.Test.YtfmhmokbbkliaaaGreatB28
import Derived.Test.YtfmhmokbbkliaaaGreatB31
import Derived.Test.YtfmhmokbbkliaaaGreatB32
import Derived.Test.YtfmhmokbbkliaaaGreatB33
import Derived.Test.YtfmhmokbbkliaaaGreatB34
import Derived.Test.YtfmhmokbbkliaaaGreatB35
import Derived.Test.YtfmhmokbbkliaaaGreatB36
import Derived.Test.YtfmhmokbbkliaaaGreatB37
import Derived.BigQuiet
import Derived.BigRegion
import Derived.Deep.DeepCutAuto
import Derived.Defers
import Derived.Lib.QuietBelow
import Derived.Recover

/- The contracts of slices.Equal at texts, and of journal.takeAnswer. -/
namespace Go.Proofs.YtfmhmokbbkliaaaGreat.Jrn
open Go.RowKit Go.Proofs.YtfmhmokbbkliaaaGreat Go.Proofs.YtfmhmokbbkliaaaGreat.Wir Go.Proofs.YtfmhmokbbkliaaaGreat.Lgg Go.Proofs.YtfmhmokbbkliaaaGreat.Sep
open Go.Proofs.YtfmhmokbbkliaaaGreat.Smm (bytes_ne)
set_option linter.unusedVariables false

theorem take_eq_stepS {ss tt : List ByteArray} {k : Nat} (hs : k < ss.length) (ht : k < tt.length) (h : ss.take k = tt.take k) (e : ss[k] = tt[k]) : ss.take (k + 1) = tt.take (k + 1) := by
  rw [List.take_succ_eq_append_getElem hs, List.take_succ_eq_append_getElem ht, h, e]
set_option maxRecDepth 100000 in
set_option maxHeartbeats 1000000 in
theorem equalS_val (a a' : Option Addr) (b off cap b' off' cap' n m : Nat) (ss tt : List ByteArray) (v : Bool) (w : World) (hS : Strs w a b off ss) (hT : Strs w a' b' off' tt) (hn : ss.length = n) (hm : tt.length = m) (hv : decide (ss = tt) = v) :
    Calls Tryz.prog 98 #[.slice a n cap, .slice a' m cap'] w fun e w' => e = .returned (.bool v) ∧ Below w.heap.size w w' := by
  have hml := hS.len
  unfold maxLen at hml
  by_cases hnm : n = m
  case neg =>
    have hvf : v = false := by
      rw [← hv, decide_eq_false_iff_not]
      intro e; subst e; exact hnm (hn.symm.trans hm)
    subst hvf
    clear hS hT hn hm hv hml
    go_enter Tryz.func98, Tryz.ntmps98
    go_wp2
    go_ret
    exact ⟨rfl, Below.refl _ _⟩
  case pos =>
  subst hnm
  have HN : Hid (ss.length = n) := hn
  have HN' : Hid (tt.length = n) := hm
  have HV : Hid (decide (ss = tt) = v) := hv
  have HS : Hid (Strs w a b off ss) := hS
  have HT : Hid (Strs w a' b' off' tt) := hT
  have hnm : n ≤ 9223372036854775807 := by omega
  clear hn hm hv hS hT hml
  go_enter Tryz.func98, Tryz.ntmps98
  go_wp2
  go_loopw [13] (fun c wr => ∃ k q : Nat, k ≤ n ∧ c = .int .i64 k ∧ ss.take k = tt.take k ∧ wr = w.drewN q) (fun c _ => n - (intOf c).toNat)
  case atStart => exact ⟨0, 0, by omega, rfl, by simp, rfl⟩
  case round =>
    obtain ⟨k, q, hk, rfl, hE, hw⟩ := hrel
    have E : Hid (ss.take k = tt.take k) := hE
    have HW : Hid (wr = w.drewN q) := hw
    have hb : Below w.heap.size w wr := by rw [hw]; exact bel_dr _ _
    clear hE hw
    by_cases hlt : k < n
    · have hks : k < ss.length := by rw [HN.out]; exact hlt
      have hkt : k < tt.length := by rw [HN'.out]; exact hlt
      have ha := HS.out.addr (by omega)
      have ha' := HT.out.addr (by omega)
      subst ha
      subst ha'
      have hc1 := bel_cell hb (HS.out.cell k hks)
      have hc2 := bel_cell hb (HT.out.cell k hkt)
      have hlt' : (k : Int) < (n : Int) := by omega
      obtain ⟨x, hx⟩ : ∃ x, ss[k] = x := ⟨_, rfl⟩
      obtain ⟨y, hy⟩ : ∃ y, tt[k] = y := ⟨_, rfl⟩
      rw [hx] at hc1
      rw [hy] at hc2
      by_cases he : x = y
      · have E2 : Hid (ss.take (k + 1) = tt.take (k + 1)) := take_eq_stepS hks hkt E.out (by rw [hx, hy, he])
        subst he
        clear E hx hy hb
        go_wp2
        go_quiet (fail)
        go_wp2
        go_roundw
        case rel => exact ⟨k + 1, q + nq, by omega, by go_num, E2.out, by rw [HW.out, World.drewN_drewN]⟩
        case measure => simp [intOf]; omega
      · have HF : Hid (v = false) := by
          show _ = _
          rw [← HV.out, decide_eq_false_iff_not]
          intro e; subst e; exact he (by rw [← hx, ← hy])
        have hne := bytes_ne he
        clear E hx hy hb he
        go_wp2
        go_quiet (fail)
        go_wp2
        go_ret
        exact ⟨by rw [HF.out]; rfl, by rw [HW.out, World.drewN_drewN]; exact bel_dr _ _⟩
    · have HT2 : Hid (v = true) := by
        show _ = _
        rw [← HV.out, decide_eq_true_eq]
        have h := E.out
        rw [List.take_of_length_le (by have := HN.out; omega), List.take_of_length_le (by have := HN'.out; omega)] at h
        exact h
      clear hb
      go_wp2
      go_ret
      exact ⟨by rw [HT2.out]; rfl, by rw [HW.out]; exact bel_dr _ _⟩

theorem sjoinC_any (a : Option Addr) (b off cap n : Nat) (ss : List ByteArray) (w : World) (hS : Strs w a b off ss) (hn : ss.length = n) (hcap : n ≤ cap) (hl : n ≤ 1000) (hx : ∀ x ∈ ss, x.size ≤ 4000) :
    Calls Tryz.prog 97 #[.slice a n cap, .string ⟨#[]⟩] w fun e w' => e = .returned (.string (catL ss)) ∧ Below w.heap.size w w' := by
  subst hn
  have hj : (⟨(Lib.join (ss.map (·.data.toList)) (⟨#[]⟩ : ByteArray).data.toList).toArray⟩ : ByteArray) = catL ss := by
    show (⟨(Lib.join (ss.map (·.data.toList)) []).toArray⟩ : ByteArray) = _
    rw [join_flat]; rfl
  cases ss with
  | nil =>
    refine (strings_Join_none a cap ⟨#[]⟩ w).mono ?_
    rintro e w1 ⟨rfl, rfl⟩
    exact ⟨rfl, Below.refl _ _⟩
  | cons s r =>
    obtain rfl := hS.addr (by simp)
    have hc := cat_size (s :: r) hx
    rw [← hj] at hc ⊢
    rw [mk_size] at hc
    refine strings_Join b off cap (s :: r) ⟨#[]⟩ w (fun j x hj => ?_) (hS.lt (by simp)) (by omega) hcap (by omega)
    obtain ⟨h1, h2⟩ := List.getElem?_eq_some_iff.1 hj
    rw [hS.cell j h1, h2]

/-- What becomes of an answer's texts. -/
structure TldR (base : Nat) (ep er : Int) (es : List En) (e : Ending) (w' : World) : Prop where
  ex : ∃ a c g, e = .returned (.agg #[.int .i64 ep, .slice a es.length c, .int .i64 er]) ∧ Cel (fun q => base ≤ q) w' 2 (.slice a es.length c) es.length (rowC enC es) g
def AnsO (base : Nat) (r : Option (Lg × Int)) (e : Ending) (w' : World) : Prop := match r with
  | none => e = leftV
  | some (l, er) => TldR base l.ep er l.es e w'

set_option maxRecDepth 100000 in
set_option maxHeartbeats 1000000 in
theorem ans_none {w : World} (a : Option Addr) (c : Nat) : Calls Tryz.prog 51 #[.slice a 0 c] w fun e w' => e = leftV ∧ Below w.heap.size w w' := by
  have HF : Hid (∀ W, Calls Tryz.prog 94 #[.bool false] W fun e w' => e = leftV ∧ w' = W) := need_no
  go_enter Tryz.func51, Tryz.ntmps51
  go_wp2_with (go_at_call 94; refine (HF.out _).mono ?_; rintro e wy ⟨rfl, rfl⟩)
  exact ⟨rfl, rfl, bel_al _ _⟩

theorem strs_drop1 {w : World} {b off : Nat} {x : ByteArray} {ss : List ByteArray} (h : Strs w (some ⟨b, off, none⟩) b off (x :: ss)) : Strs w (some ⟨b, off + 1, none⟩) b (off + 1) ss := by
  refine ⟨fun _ => rfl, fun j hj => ?_, fun s hs => h.small s (by simp [hs]), by have := h.len; simp at this; omega⟩
  have h1 := h.cell (j + 1) (by simp; omega)
  rw [show off + 1 + j = off + (j + 1) by omega, h1]
  rfl

end Go.Proofs.YtfmhmokbbkliaaaGreat.Jrn

/- Plain: what a request leaves of a node and its disk. -/
namespace Go.Proofs.YtfmhmokbbkliaaaGreat.Jrn
open Go.Proofs.YtfmhmokbbkliaaaGreat Go.Proofs.YtfmhmokbbkliaaaGreat.Wir Go.Proofs.YtfmhmokbbkliaaaGreat.Lgg
set_option linter.unusedVariables false

/-! ### what an answer tells -/
def handE (ds : DS) (j : Nd) (s : ByteArray) : Int := if j.gone = true then 12 else match readQ s with | none => 2 | some r => (doQ ds j r).e
def ErrO (e : Int) : Prop := e = 0 ∨ e = 10 ∨ e = 11 ∨ e = 12
theorem stoR_e (ds : DS) (j : Nd) (r : Rq) : ErrO (doQ ds j r).e := by
  have e0 : ErrO 0 := .inl rfl
  have e10 : ErrO 10 := .inr (.inl rfl)
  have e11 : ErrO 11 := .inr (.inr (.inl rfl))
  have e12 : ErrO 12 := .inr (.inr (.inr rfl))
  have hp : ∀ ep, ErrO (promQ ds j ep).e := fun ep => by
    unfold promQ
    split
    · exact e10
    · split
      · exact e0
      · exact e12
  have hf : ∀ (ds : DS) (j : Nd) ep es, ErrO (fresh ds j ep es).e := fun ds j ep es => by
    unfold fresh
    split
    · exact e0
    · exact e12
  cases r with
  | prom ep => exact hp ep
  | acc ep es =>
    show ErrO (accQ ds j ep es).e
    unfold accQ
    split
    · exact e10
    · split
      · simp only; split
        · exact e0
        · exact e11
      · split
        · split
          · exact hf _ _ ep es
          · exact hp ep
        · exact hf _ _ ep es
  | add ep x =>
    show ErrO (addQ ds j ep x).e
    unfold addQ
    split
    · exact e10
    · split
      · exact e11
      · split
        · simp only; split
          · exact e0
          · exact e11
        · split
          · exact e0
          · exact e12
theorem hand_err {ds : DS} {j : Nd} (hj : NdOk j) (s : ByteArray) : (toldP (handQ ds j s).t).2 = handE ds j s := by
  unfold handQ handE
  split
  · rw [told_err 12 (by omega) (by omega)]
  · rename_i hg
    cases hr : readQ s with
    | none => simp only; rw [told_err 2 (by omega) (by omega)]
    | some r =>
      simp only
      have he := stoR_e ds j r
      split
      · rename_i h1
        rw [h1.1, told_log (doQ_ok hj (by simpa using hg) (readQ_ok hr)).log]
      · unfold ErrO at he
        rw [told_err _ (by omega) (by omega)]
theorem hand_log {ds : DS} {j : Nd} (hj : NdOk j) {s : ByteArray} {ep : Int} (hr : readQ s = some (.prom ep)) (h0 : handE ds j s = 0) : toldP (handQ ds j s).t = ((handQ ds j s).j.l, 0) := by
  unfold handE at h0
  split at h0
  · cases h0
  · rename_i hg
    rw [hr] at h0
    simp only at h0
    unfold handQ
    rw [if_neg hg, hr]
    simp only
    rw [if_pos ⟨h0, rfl⟩, h0, told_log (doQ_ok hj (by simpa using hg) (readQ_ok hr)).log]

/-! ### a request again; an earlier epoch -/
theorem acc_again {ds : DS} {j : Nd} {ep : Int} (es : List En) (h1 : ¬ ep < j.p) (h2 : ep = j.l.ep) : (accQ ds j ep es).j = j := by
  unfold accQ; rw [if_neg h1, if_pos h2]
theorem do_twice {ds : DS} {j : Nd} (hg : j.gone = false) (r : Rq) (hl : (doQ ds j r).j.gone = false) : (doQ (doQ ds j r).ds (doQ ds j r).j r).j = (doQ ds j r).j := by
  have hfr : ∀ (d : DS) (i : Nd) (ep : Int) (es : List En), ¬ ep < i.p → i.gone = false → (fresh d i ep es).j.gone = false → (accQ (fresh d i ep es).ds (fresh d i ep es).j ep es).j = (fresh d i ep es).j := fun d i ep es h1 h2 h3 => by
    unfold fresh at h3 ⊢
    split at h3
    · rename_i h4
      rw [if_pos h4]
      exact acc_again es h1 rfl
    · cases h3
  cases r with
  | prom ep =>
    show (promQ (promQ ds j ep).ds (promQ ds j ep).j ep).j = (promQ ds j ep).j
    change (promQ ds j ep).j.gone = false at hl
    by_cases h : ep ≤ j.p
    · have e : promQ ds j ep = ⟨10, ds, j⟩ := by unfold promQ; rw [if_pos h]
      rw [e]
      simp only
      rw [e]
    · by_cases h2 : (stoR ds prN (encL ⟨ep, []⟩)).1 = 0
      · have e : promQ ds j ep = ⟨0, (stoR ds prN (encL ⟨ep, []⟩)).2, ⟨ep, j.l, j.gone⟩⟩ := by unfold promQ; rw [if_neg h, if_pos h2]
        rw [e]
        simp only
        unfold promQ
        rw [if_pos (Int.le_refl _)]
      · have e : promQ ds j ep = ⟨12, (stoR ds prN (encL ⟨ep, []⟩)).2, deadN⟩ := by unfold promQ; rw [if_neg h, if_neg h2]
        rw [e] at hl
        cases hl
  | acc ep es =>
    show (accQ (accQ ds j ep es).ds (accQ ds j ep es).j ep es).j = (accQ ds j ep es).j
    change (accQ ds j ep es).j.gone = false at hl
    by_cases h1 : ep < j.p
    · have e : accQ ds j ep es = ⟨10, ds, j⟩ := by unfold accQ; rw [if_pos h1]
      rw [e]; simp only; rw [e]
    · by_cases h2 : ep = j.l.ep
      · have e : accQ ds j ep es = ⟨if begB es j.l.es = true then 0 else 11, ds, j⟩ := by unfold accQ; rw [if_neg h1, if_pos h2]
        rw [e]; simp only; rw [e]
      · by_cases h3 : j.p < ep
        · by_cases h4 : (promQ ds j ep).e = 0
          · have e : accQ ds j ep es = fresh (promQ ds j ep).ds (promQ ds j ep).j ep es := by unfold accQ; rw [if_neg h1, if_neg h2, if_pos h3, if_pos h4]
            rw [e] at hl ⊢
            refine hfr _ _ _ _ ?_ ?_ hl
            · rw [promQ_on hg h4]; exact Int.lt_irrefl _
            · rw [promQ_on hg h4]
          · have e : accQ ds j ep es = promQ ds j ep := by unfold accQ; rw [if_neg h1, if_neg h2, if_pos h3, if_neg h4]
            rw [e] at hl
            unfold promQ at hl h4
            split at h4
            · omega
            · rename_i h5
              split at h4
              · cases h4 rfl
              · rename_i h6
                rw [if_neg h5, if_neg h6] at hl
                cases hl
        · have e : accQ ds j ep es = fresh ds j ep es := by unfold accQ; rw [if_neg h1, if_neg h2, if_neg h3]
          rw [e] at hl ⊢
          exact hfr _ _ _ _ h1 hg hl
  | add ep x =>
    show (addQ (addQ ds j ep x).ds (addQ ds j ep x).j ep x).j = (addQ ds j ep x).j
    change (addQ ds j ep x).j.gone = false at hl
    by_cases h1 : ep ≠ j.p ∨ ep ≠ j.l.ep
    · have e : addQ ds j ep x = ⟨10, ds, j⟩ := by unfold addQ; rw [if_pos h1]
      rw [e]; simp only; rw [e]
    · by_cases h2 : ((j.l.es.length : Nat) : Int) + 1 < x.tx
      · have e : addQ ds j ep x = ⟨11, ds, j⟩ := by unfold addQ; rw [if_neg h1, if_pos h2]
        rw [e]; simp only; rw [e]
      · by_cases h3 : x.tx ≤ (j.l.es.length : Nat)
        · have e : addQ ds j ep x = ⟨if j.l.es[x.tx.toNat - 1]? = some x then 0 else 11, ds, j⟩ := by unfold addQ; rw [if_neg h1, if_neg h2, if_pos h3]
          rw [e]; simp only; rw [e]
        · by_cases h4 : (addR ds lgN (encE x)).1 = 0
          · have e : addQ ds j ep x = ⟨0, (addR ds lgN (encE x)).2, ⟨j.p, ⟨j.l.ep, j.l.es ++ [x]⟩, j.gone⟩⟩ := by unfold addQ; rw [if_neg h1, if_neg h2, if_neg h3, if_pos h4]
            rw [e]
            simp only
            unfold addQ
            simp only
            rw [if_neg h1, if_neg (by simp; omega), if_pos (by simp; omega)]
          · have e : addQ ds j ep x = ⟨12, (addR ds lgN (encE x)).2, deadN⟩ := by unfold addQ; rw [if_neg h1, if_neg h2, if_neg h3, if_neg h4]
            rw [e] at hl
            cases hl
theorem hand_twice (ds : DS) (j : Nd) (s : ByteArray) : (handQ (handQ ds j s).ds (handQ ds j s).j s).j = (handQ ds j s).j := by
  by_cases hg : j.gone = true
  · have e : handQ ds j s = ⟨ansT 12 [], ds, j⟩ := by unfold handQ; rw [if_pos hg]
    rw [e]; simp only; rw [e]
  · cases hr : readQ s with
    | none =>
      have e : handQ ds j s = ⟨ansT 2 [], ds, j⟩ := by unfold handQ; rw [if_neg hg, hr]
      rw [e]; simp only; rw [e]
    | some r =>
      have e1 : (handQ ds j s).ds = (doQ ds j r).ds := by unfold handQ; rw [if_neg hg, hr]
      have e2 : (handQ ds j s).j = (doQ ds j r).j := by unfold handQ; rw [if_neg hg, hr]
      rw [e1, e2]
      by_cases hl : (doQ ds j r).j.gone = true
      · unfold handQ; rw [if_pos hl]
      · have e3 : (handQ (doQ ds j r).ds (doQ ds j r).j s).j = (doQ (doQ ds j r).ds (doQ ds j r).j r).j := by unfold handQ; rw [if_neg hl, hr]
        rw [e3]
        exact do_twice (by simpa using hg) r (by simpa using hl)
/-- A promise that was made. -/
theorem hand_prom {ds : DS} {j : Nd} {ep : Int} (h0 : -9223372036854775808 ≤ ep) (h1 : ep ≤ 9223372036854775807) (h : handE ds j (joinT [pT, numT ep]) = 0) : epR ep = true ∧ readQ (joinT [pT, numT ep]) = some (.prom ep) ∧ j.gone = false ∧ j.p < ep ∧ (handQ ds j (joinT [pT, numT ep])).j = ⟨ep, j.l, false⟩ := by
  have hr := read_prom ep h0 h1
  unfold handE at h
  by_cases hg : j.gone = true
  · rw [if_pos hg] at h; cases h
  · rw [if_neg hg] at h
    by_cases he : epR ep = true
    · rw [if_pos he] at hr
      rw [hr] at h
      simp only at h
      change (promQ ds j ep).e = 0 at h
      refine ⟨he, hr, by simpa using hg, ?_, ?_⟩
      · unfold promQ at h
        split at h
        · cases h
        · omega
      · have e : (handQ ds j (joinT [pT, numT ep])).j = (promQ ds j ep).j := by unfold handQ; rw [if_neg hg, hr]; rfl
        rw [e, promQ_on (by simpa using hg) h]
    · rw [if_neg he] at hr
      rw [hr] at h
      cases h
theorem read_small : readQ ⟨#[]⟩ = none := read_empty
/-- Who asks with an earlier epoch changes nothing. -/
theorem hand_late {ds : DS} {j : Nd} {s : ByteArray} (hg : j.gone = false) (hr : ∀ r, readQ s = some r → match r with | .prom e => e < j.p | .acc e _ => e < j.p | .add e _ => e < j.p) : (handQ ds j s).j = j := by
  unfold handQ
  rw [if_neg (by rw [hg]; simp)]
  cases h : readQ s with
  | none => rfl
  | some r =>
    have := hr r h
    cases r with
    | prom e =>
      show (promQ ds j e).j = j
      unfold promQ
      simp only at this
      rw [if_pos (by omega)]
    | acc e es =>
      show (accQ ds j e es).j = j
      unfold accQ
      simp only at this
      rw [if_pos this]
    | add e x =>
      show (addQ ds j e x).j = j
      unfold addQ
      simp only at this
      rw [if_pos (.inl (by omega))]

/-! ### an empty disk -/
def nd0 : Nd := ⟨0, ⟨0, []⟩, false⟩
theorem nd0_ok : NdOk nd0 := ⟨rt_none, rfl, fun e => by cases e⟩
theorem open_none (room : Int) : openQ ⟨room, 0, false, []⟩ = (0, ⟨room, 0, false, []⟩, nd0) := rfl
theorem fil_none (N : Nat) : Fil N [] 0 := ⟨List.Pairwise.nil, (fun _ h => by cases h), .inl ⟨rfl, rfl⟩, Nat.zero_le _, Nat.zero_le _⟩
theorem run_none (room : Int) : Run room ⟨room, 0, false, []⟩ := ⟨rfl, rfl, by simp⟩
end Go.Proofs.YtfmhmokbbkliaaaGreat.Jrn

/- Plain: the examples' answers. -/
namespace Go.Proofs.YtfmhmokbbkliaaaGreat.Jrn
open Go.Proofs.YtfmhmokbbkliaaaGreat Go.Proofs.YtfmhmokbbkliaaaGreat.Wir Go.Proofs.YtfmhmokbbkliaaaGreat.Lgg
set_option linter.unusedVariables false

theorem hand_of {ds : DS} {j : Nd} {s : ByteArray} {r : Rq} (hg : j.gone = false) (hr : readQ s = some r) : handE ds j s = (doQ ds j r).e ∧ (handQ ds j s).ds = (doQ ds j r).ds ∧ (handQ ds j s).j = (doQ ds j r).j := by
  have h : ¬ j.gone = true := by rw [hg]; simp
  unfold handE handQ
  rw [if_neg h, if_neg h, hr]
  exact ⟨rfl, rfl, rfl⟩

abbrev D0 : DS := ⟨1000, 0, false, []⟩
abbrev sP : ByteArray := joinT [pT, numT 1]
abbrev sA : ByteArray := joinT (accTs 1 [])
abbrev xX : En := ⟨1, ⟨#[120]⟩⟩
abbrev xY : En := ⟨3, ⟨#[121]⟩⟩
abbrev sW : ByteArray := joinT [wT, numT 1, numT 1, ⟨#[120]⟩]
abbrev sY : ByteArray := joinT [wT, numT 1, numT 3, ⟨#[121]⟩]
theorem ep_one : epR 1 = true := by decide
theorem rt1 : RtL ⟨1, []⟩ := rt_ep (epR_ok ep_one)
theorem rd_P : readQ sP = some (.prom 1) := by rw [read_prom 1 (by omega) (by omega), if_pos ep_one]
theorem rd_A : readQ sA = some (.acc 1 []) := by rw [read_acc 1 [] rt1, if_pos ep_one]
theorem rd_W : readQ sW = some (.add 1 xX) := by
  have h := read_add 1 (by omega) (by omega) xX (by decide)
  rw [if_pos ep_one] at h
  exact h
theorem rd_Y : readQ sY = some (.add 1 xY) := by
  have h := read_add 1 (by omega) (by omega) xY (by decide)
  rw [if_pos ep_one] at h
  exact h
abbrev j1 : Nd := ⟨1, ⟨0, []⟩, false⟩
abbrev k1 : Nd := ⟨1, ⟨1, []⟩, false⟩
abbrev k2 : Nd := ⟨1, ⟨1, [xX]⟩, false⟩
theorem j1_ok : NdOk j1 := ⟨rt_none, rfl, fun e => by cases e⟩
theorem k1_ok : NdOk k1 := ⟨rt1, rfl, fun e => by cases e⟩
theorem k2_ok : NdOk k2 := ⟨RtL.snoc (es := []) rt1 (by simp) ⟨#[120]⟩ (by decide), rfl, fun e => by cases e⟩

/-- A promise on an empty disk. -/
theorem prom_0 (room : Int) (h : 48 ≤ room) : ∃ ds, promQ ⟨room, 0, false, []⟩ nd0 1 = ⟨0, ds, j1⟩ ∧ Run room ds ∧ ds.fuse = 0 ∧ Fil 0 ds.S 1 ∧ fget ds.S lgL = none := by
  obtain ⟨e, ds', hq, hw⟩ := sto_pr (N := 0) (ds := ⟨room, 0, false, []⟩) (run_none room) (fil_none 0) ep_one (by show ((0 + 24 + 0 + 24 : Nat) : Int) ≤ room; omega)
  rcases hw with ⟨rfl, h1, h2, h3⟩ | ⟨_, h1, _⟩
  · refine ⟨ds', ?_, ⟨h1.room, h1.up, h1.fu⟩, h1.f0 rfl, h2, h3⟩
    unfold promQ
    rw [if_neg (by show ¬ (1 : Int) ≤ 0; omega), hq]
    rfl
  · exact absurd rfl h1.f0
theorem ex_j : handE D0 nd0 sP = 0 ∧ (handQ D0 nd0 sP).j = j1 := by
  obtain ⟨ds, h, _⟩ := prom_0 1000 (by omega)
  obtain ⟨a, b, c⟩ := hand_of (ds := D0) (j := nd0) rfl rd_P
  change handE D0 nd0 sP = (promQ D0 nd0 1).e at a
  change (handQ D0 nd0 sP).j = (promQ D0 nd0 1).j at c
  rw [a, c, h]
  exact ⟨rfl, rfl⟩
theorem ex_j2 (ds : DS) : handE ds j1 sP = 10 ∧ (handQ ds j1 sP).j = j1 ∧ (handQ ds j1 sP).ds = ds := by
  obtain ⟨a, b, c⟩ := hand_of (ds := ds) (j := j1) rfl rd_P
  rw [a, b, c]
  exact ⟨rfl, rfl, rfl⟩
theorem ex_j3 (ds : DS) : handE ds j1 sW = 10 ∧ (handQ ds j1 sW).j = j1 ∧ (handQ ds j1 sW).ds = ds := by
  obtain ⟨a, b, c⟩ := hand_of (ds := ds) (j := j1) rfl rd_W
  rw [a, b, c]
  exact ⟨rfl, rfl, rfl⟩
theorem ex_k : handE D0 nd0 sA = 0 ∧ (handQ D0 nd0 sA).j = k1 ∧ handE (handQ D0 nd0 sA).ds k1 sW = 0 ∧ (handQ (handQ D0 nd0 sA).ds k1 sW).j = k2 := by
  obtain ⟨d1, h, r1, f1, F1, g1⟩ := prom_0 1000 (by omega)
  have hz := enc_pr (epR_ok ep_one)
  obtain ⟨e, d2, hq, hw⟩ := sto_lg (N := 0) r1 F1 rt1 (by rw [g1]; show ((0 + 48 + (encL ⟨1, []⟩).size : Nat) : Int) ≤ 1000; omega) (fun e => absurd f1 e)
  rcases hw with ⟨rfl, h1, F2, g2⟩ | ⟨_, h1, _⟩
  · have hacc : accQ D0 nd0 1 [] = ⟨0, d2, k1⟩ := by
      unfold accQ
      rw [if_neg (by show ¬ (1 : Int) < 0; omega), if_neg (by show ¬ (1 : Int) = 0; omega), if_pos (by show (0 : Int) < 1; omega), h]
      simp only
      rw [if_pos trivial]
      unfold fresh
      rw [hq]
      rfl
    obtain ⟨a, b, c⟩ := hand_of (ds := D0) (j := nd0) rfl rd_A
    change handE D0 nd0 sA = (accQ D0 nd0 1 []).e at a
    change (handQ D0 nd0 sA).ds = (accQ D0 nd0 1 []).ds at b
    change (handQ D0 nd0 sA).j = (accQ D0 nd0 1 []).j at c
    rw [hacc] at a b c
    refine ⟨a, c, ?_⟩
    rw [b]
    simp only
    have hx := encE_size (x := xX) (by decide) (by decide) (by decide)
    have hlen := encB_len ⟨1, []⟩
    obtain ⟨e3, d3, hq3, hw3⟩ := add_lg (N := 0) ⟨h1.room, h1.up, h1.fu⟩ F2 (x := xX) rt1 hx g2 (by rw [g2]; show (((encB ⟨1, []⟩).length + 48 + 0 + (encE xX).size : Nat) : Int) ≤ 1000; omega)
    rcases hw3 with ⟨rfl, h3, _⟩ | ⟨_, h3, _⟩
    · have hadd : addQ d2 k1 1 xX = ⟨0, d3, k2⟩ := by
        unfold addQ
        rw [if_neg (by show ¬ ((1 : Int) ≠ 1 ∨ (1 : Int) ≠ 1); omega), if_neg (by show ¬ ((0 : Nat) : Int) + 1 < 1; omega), if_neg (by show ¬ (1 : Int) ≤ ((0 : Nat) : Int); omega), hq3]
        rfl
      obtain ⟨a, b, c⟩ := hand_of (ds := d2) (j := k1) rfl rd_W
      change handE d2 k1 sW = (addQ d2 k1 1 xX).e at a
      change (handQ d2 k1 sW).j = (addQ d2 k1 1 xX).j at c
      rw [hadd] at a c
      exact ⟨a, c⟩
    · exact absurd (h1.f0 f1) h3.f0
  · exact absurd f1 h1.f0
theorem ex_k3 (ds : DS) : handE ds k2 sY = 11 ∧ (handQ ds k2 sY).j = k2 ∧ (handQ ds k2 sY).ds = ds := by
  obtain ⟨a, b, c⟩ := hand_of (ds := ds) (j := k2) rfl rd_Y
  rw [a, b, c]
  exact ⟨rfl, rfl, rfl⟩
end Go.Proofs.YtfmhmokbbkliaaaGreat.Jrn

/- Plain: a node and its disk through requests, through the going of the power, through a crash. -/
namespace Go.Proofs.YtfmhmokbbkliaaaGreat.Jrn
open Go.Proofs.YtfmhmokbbkliaaaGreat Go.Proofs.YtfmhmokbbkliaaaGreat.Wir Go.Proofs.YtfmhmokbbkliaaaGreat.Lgg
set_option linter.unusedVariables false

/-- The log's file. -/
def LgF (S : FS) (l : Lg) : Prop := (l = ⟨0, []⟩ ∧ fget S lgL = none) ∨ fget S lgL = some (encB l, (encB l).length)
theorem enc_top {l : Lg} (h : RtL l) : (encL l).size ≤ 187224 := by
  have := enc_lg h
  have := h.2.1
  omega
theorem LgF.len {S : FS} {l : Lg} (h : LgF S l) (hl : RtL l) : flen (fget S lgL) ≤ (encL l).size := by
  rcases h with ⟨_, h⟩ | h
  · rw [h]; exact Nat.zero_le _
  · rw [h]
    show (encB l).length ≤ _
    rw [encB_len]; exact Nat.le_refl _
/-- A node, its disk. -/
structure Dv (N : Nat) (ds : DS) (j : Nd) : Prop where
  run : Run 400000 ds
  fil : Fil N ds.S j.p
  lg : LgF ds.S j.l
  ok : NdOk j
  alive : j.gone = false
/-- The power has gone. -/
structure Lost (N : Nat) (ds : DS) (p : Int) (l : Lg) : Prop where
  room : ds.room = 400000
  down : ds.down = true
  fil : Fil N ds.S p
  lg : LgF ds.S l ∨ ∃ x, RtL ⟨l.ep, l.es ++ [x]⟩ ∧ fget ds.S lgL = some (encB l ++ (encE x).data.toList, (encB l).length)
  rt : RtL l
def Res (N : Nat) (ds : DS) (o : Out) (p : Int) (l : Lg) : Prop := (Dv N o.ds o.j ∧ (ds.fuse = 0 → o.ds.fuse = 0)) ∨ (ds.fuse ≠ 0 ∧ o.j = deadN ∧ ∃ p', p ≤ p' ∧ Lost N o.ds p' l)
def Wid (N : Nat) (ds : DS) : Prop := N ≤ 187224 ∧ (ds.fuse ≠ 0 → N = 187224)

section
variable {N : Nat} {ds : DS} {j : Nd}
theorem prom_res (hN : Wid N ds) (h : Dv N ds j) {ep : Int} (he : epR ep = true) : Res N ds (promQ ds j ep) j.p j.l := by
  by_cases h1 : ep ≤ j.p
  · have e : promQ ds j ep = ⟨10, ds, j⟩ := by unfold promQ; rw [if_pos h1]
    rw [e]
    exact .inl ⟨h, id⟩
  · have ht := enc_top h.ok.log
    have hll := h.lg.len h.ok.log
    obtain ⟨e, ds', hq, hw⟩ := sto_pr h.run h.fil he (by have := hN.1; omega)
    rcases hw with ⟨rfl, k1, k2, k3⟩ | ⟨rfl, k1, k2, k3⟩
    · have e : promQ ds j ep = ⟨0, ds', ⟨ep, j.l, j.gone⟩⟩ := by unfold promQ; rw [if_neg h1, hq]; rfl
      rw [e]
      refine .inl ⟨⟨⟨k1.room, k1.up, k1.fu⟩, k2, ?_, ⟨h.ok.log, epR_ok he, fun e => ?_⟩, h.alive⟩, k1.f0⟩
      · unfold LgF
        rw [k3]; exact h.lg
      · simp only at e; rw [h.alive] at e; cases e
    · have e : promQ ds j ep = ⟨12, ds', deadN⟩ := by unfold promQ; rw [if_neg h1, hq]; rfl
      rw [e]
      refine .inr ⟨k1.f0, rfl, j.p, Int.le_refl _, k1.room, k1.down, k2, .inl ?_, h.ok.log⟩
      unfold LgF
      rw [k3]; exact h.lg
theorem fresh_res (hN : Wid N ds) (h : Dv N ds j) {ep : Int} {es : List En} (he : RtL ⟨ep, es⟩) : Res N ds (fresh ds j ep es) j.p j.l := by
  have ht := enc_top h.ok.log
  have ht2 := enc_top he
  have hll := h.lg.len h.ok.log
  obtain ⟨e, ds', hq, hw⟩ := sto_lg h.run h.fil he (by omega) (fun e => by rw [hN.2 e]; exact ht2)
  rcases hw with ⟨rfl, k1, k2, k3⟩ | ⟨rfl, k1, k2, k3⟩
  · have e : fresh ds j ep es = ⟨0, ds', ⟨j.p, ⟨ep, es⟩, j.gone⟩⟩ := by unfold fresh; rw [hq]; rfl
    rw [e]
    exact .inl ⟨⟨⟨k1.room, k1.up, k1.fu⟩, k2, .inr k3, ⟨he, h.ok.p, fun e => by simp only at e; rw [h.alive] at e; cases e⟩, h.alive⟩, k1.f0⟩
  · have e : fresh ds j ep es = ⟨12, ds', deadN⟩ := by unfold fresh; rw [hq]; rfl
    rw [e]
    refine .inr ⟨k1.f0, rfl, j.p, Int.le_refl _, k1.room, k1.down, k2, .inl ?_, h.ok.log⟩
    unfold LgF
    rw [k3]; exact h.lg
theorem Wid.on {ds' : DS} (hN : Wid N ds) (h : ds.fuse = 0 → ds'.fuse = 0) : Wid N ds' := ⟨hN.1, fun e => hN.2 (fun e2 => e (h e2))⟩
theorem acc_res (hN : Wid N ds) (h : Dv N ds j) {ep : Int} {es : List En} (hp : epR ep = true) (he : RtL ⟨ep, es⟩) : Res N ds (accQ ds j ep es) j.p j.l := by
  unfold accQ
  split
  · exact .inl ⟨h, id⟩
  · split
    · exact .inl ⟨h, id⟩
    · split
      · rename_i h3
        split
        · rename_i h4
          have hon := promQ_on h.alive h4
          rcases prom_res hN h hp with ⟨k1, k2⟩ | ⟨_, k2, _⟩
          · rcases fresh_res (hN.on k2) k1 he with ⟨m1, m2⟩ | ⟨m1, m2, p', m3, m4⟩
            · exact .inl ⟨m1, fun e => m2 (k2 e)⟩
            · have hl1 : (promQ ds j ep).j.l = j.l := by rw [hon]
              have hp1 : (promQ ds j ep).j.p = ep := by rw [hon]
              rw [hl1] at m4
              rw [hp1] at m3
              exact .inr ⟨fun e => m1 (k2 e), m2, p', by omega, m4⟩
          · rw [hon] at k2
            have := congrArg Nd.gone k2
            cases this
        · exact prom_res hN h hp
      · exact fresh_res hN h he
theorem LgF.some {S : FS} {l : Lg} (h : LgF S l) (he : l.ep ≠ 0) : fget S lgL = some (encB l, (encB l).length) := by
  rcases h with ⟨h, _⟩ | h
  · rw [h] at he; exact absurd rfl he
  · exact h
theorem add_res (hN : Wid N ds) (h : Dv N ds j) {ep : Int} {x : En} (hp : epR ep = true) (hx : addR1 x = true) : Res N ds (addQ ds j ep x) j.p j.l := by
  obtain ⟨x1, x2, x3⟩ := (addR1_iff x).1 hx
  unfold addQ
  split
  · exact .inl ⟨h, id⟩
  · rename_i h1
    split
    · exact .inl ⟨h, id⟩
    · rename_i h2
      split
      · exact .inl ⟨h, id⟩
      · rename_i h3
        have hep := (epR_iff ep).1 hp
        have hg := h.lg.some (by omega)
        have hl3 : j.l.es.length < 300 := by omega
        have hxe : x = ⟨((j.l.es.length + 1 : Nat) : Int), x.d⟩ := by
          cases x; simp only [En.mk.injEq, and_true]; simp only at h2 h3; omega
        have hrt : RtL ⟨j.l.ep, j.l.es ++ [x]⟩ := by rw [hxe]; exact RtL.snoc h.ok.log hl3 _ x3
        have hz := encE_size (x := x) (by omega) (by omega) x3
        have hll := h.lg.len h.ok.log
        have hlz := enc_lg h.ok.log
        obtain ⟨e, ds', hq, hw⟩ := add_lg h.run h.fil (x := x) h.ok.log hz hg (by have := hN.1; omega)
        have hsn : encB j.l ++ (encE x).data.toList = encB ⟨j.l.ep, j.l.es ++ [x]⟩ := by
          show (encL j.l).data.toList ++ _ = (encL ⟨j.l.ep, j.l.es ++ [x]⟩).data.toList
          rw [encL_snoc, Wir.app_list]
        rw [hq]
        rcases hw with ⟨rfl, k1, k2, k3⟩ | ⟨rfl, k1, k2, k3⟩
        · rw [if_pos rfl]
          rw [hsn] at k3
          exact .inl ⟨⟨⟨k1.room, k1.up, k1.fu⟩, k2, .inr k3, ⟨hrt, h.ok.p, fun e => by simp only at e; rw [h.alive] at e; cases e⟩, h.alive⟩, k1.f0⟩
        · rw [if_neg (by omega)]
          refine .inr ⟨k1.f0, rfl, j.p, Int.le_refl _, k1.room, k1.down, k2, ?_, h.ok.log⟩
          rcases k3 with k3 | k3
          · exact .inl (.inr k3)
          · exact .inr ⟨x, hrt, k3⟩
theorem do_res (hN : Wid N ds) (h : Dv N ds j) {r : Rq} (hr : RqOk r) : Res N ds (doQ ds j r) j.p j.l := by
  cases r with
  | prom ep => exact prom_res hN h hr
  | acc ep es => exact acc_res hN h hr.1 hr.2
  | add ep x => exact add_res hN h hr.1 hr.2
/-- What is there behind any request. -/
theorem hand_res (hN : Wid N ds) (h : Dv N ds j) (s : ByteArray) : (Dv N (handQ ds j s).ds (handQ ds j s).j ∧ (ds.fuse = 0 → (handQ ds j s).ds.fuse = 0)) ∨ (ds.fuse ≠ 0 ∧ (handQ ds j s).j = deadN ∧ ∃ p', j.p ≤ p' ∧ Lost N (handQ ds j s).ds p' j.l) := by
  have hg : ¬ j.gone = true := by rw [h.alive]; simp
  cases hr : readQ s with
  | none =>
    have e : handQ ds j s = ⟨ansT 2 [], ds, j⟩ := by unfold handQ; rw [if_neg hg, hr]
    rw [e]
    exact .inl ⟨h, id⟩
  | some r =>
    obtain ⟨_, b, c⟩ := hand_of h.alive hr
    rw [b, c]
    exact do_res hN h (readQ_ok hr)
end
end Go.Proofs.YtfmhmokbbkliaaaGreat.Jrn

/- Plain: a node's files behind a crash; it is opened anew; what it had is there. -/
namespace Go.Proofs.YtfmhmokbbkliaaaGreat.Jrn
open Go.Proofs.YtfmhmokbbkliaaaGreat Go.Proofs.YtfmhmokbbkliaaaGreat.Wir Go.Proofs.YtfmhmokbbkliaaaGreat.Lgg
set_option linter.unusedVariables false

/-! ### a crash -/
theorem crash_len {S : FS} (hS : Rise S) (ks : List Int) (n : List UInt8) : flen (fget (crashL ks S) n) ≤ flen (fget S n) := by
  obtain ⟨c, hc⟩ := fget_crashL hS ks n
  rw [hc]
  cases fget S n with
  | none => exact Nat.le_refl _
  | some f =>
    simp only
    split
    · exact Nat.zero_le _
    · show (f.1.take _).length ≤ f.1.length
      rw [List.length_take]; omega
theorem crash_none {S : FS} (hS : Rise S) (ks : List Int) {n : List UInt8} (h : fget S n = none) : fget (crashL ks S) n = none := by
  obtain ⟨c, hc⟩ := fget_crashL hS ks n
  rw [hc, h]
theorem crash_full {S : FS} (hS : Rise S) (ks : List Int) {n A : List UInt8} (hA : A ≠ []) (h : fget S n = some (A, A.length)) : fget (crashL ks S) n = some (A, A.length) := by
  obtain ⟨c, hc⟩ := fget_crashL hS ks n
  rw [hc, h]
  simp only
  rw [cut_all, if_neg (fun e => hA (List.length_eq_zero_iff.1 e)), List.take_length]
theorem crash_torn {S : FS} (hS : Rise S) (ks : List Int) {n A E : List UInt8} (hA : A ≠ []) (h : fget S n = some (A ++ E, A.length)) : ∃ k, k ≤ E.length ∧ fget (crashL ks S) n = some (A ++ E.take k, A.length + k) := by
  obtain ⟨c, hc⟩ := fget_crashL hS ks n
  have hcut : cutN (A ++ E, A.length) c = A.length + keepN c % (E.length + 1) := by unfold cutN; simp
  have hk := Nat.mod_lt (keepN c) (show 0 < E.length + 1 by omega)
  have h0 : ¬ A.length = 0 := fun e => hA (List.length_eq_zero_iff.1 e)
  refine ⟨keepN c % (E.length + 1), by omega, ?_⟩
  rw [hc, h]
  simp only
  rw [hcut, if_neg (by omega), List.take_length_add_append]
theorem crash_keys {S : FS} (h : Keys S) (ks : List Int) : Keys (crashL ks S) := fun p hp => by
  obtain ⟨q, h1, h2, _⟩ := mem_crashL hp
  rw [h2]; exact h q h1
theorem enc_ne (l : Lg) : encB l ≠ [] := fun e => by
  have h1 := encL_pos l
  have h2 := encB_len l
  rw [e] at h2
  simp at h2; omega
theorem crash_fil {N : Nat} {S : FS} {p : Int} (h : Fil N S p) (ks : List Int) : Fil N (crashL ks S) p :=
  ⟨rise_crashL h.rise ks, crash_keys h.keys ks, h.pr.elim (fun ⟨a, b⟩ => .inl ⟨a, crash_none h.rise ks b⟩) (fun ⟨a, b⟩ => .inr ⟨a, crash_full h.rise ks (enc_ne _) b⟩), Nat.le_trans (crash_len h.rise ks _) h.np, Nat.le_trans (crash_len h.rise ks _) h.nl⟩

/-! ### what is read -/
theorem rd_some {ds : DS} (hd : ds.down = false) {n A : List UInt8} {a : Nat} (h : fget ds.S n = some (A, a)) : rdE ds n = 0 ∧ rdT ds n = ⟨A.toArray⟩ := by
  rw [rdE_eq _ hd, rdT_eq _ hd]
  refine ⟨refM_some h, ?_⟩
  unfold fdat
  rw [h]
theorem rd_none {ds : DS} (hd : ds.down = false) {n : List UInt8} (h : fget ds.S n = none) : rdE ds n = 5 := by
  rw [rdE_eq _ hd]; exact refM_none h
theorem load_none (b : ByteArray) : loadS b 5 = (⟨0, []⟩, false, 5) := by unfold loadS; rw [if_neg (by omega)]
theorem load_some {b R : ByteArray} {l : Lg} (h : parseL b = some (l, R)) : loadS b 0 = (l, decide (R.size = 0), 0) := by unfold loadS; rw [if_pos rfl, h]
theorem load_whole {l : Lg} (h : RtL l) : loadS (encL l) 0 = (l, true, 0) := by rw [load_some (parse_whole h)]; rfl
theorem ldP_fil {N : Nat} {ds : DS} {p : Int} (hd : ds.down = false) (h : Fil N ds.S p) : ldP ds = (0, p) := by
  unfold ldP
  rcases h.pr with ⟨hp, hg⟩ | ⟨h1, hg⟩
  · rw [rd_none hd hg, load_none, hp]; rfl
  · obtain ⟨e1, e2⟩ := rd_some hd hg
    rw [e1, e2, mk_list, load_whole (rt_ep (epR_ok h1))]
    simp only
    rw [if_neg (by omega), if_pos trivial, if_pos ⟨trivial, rfl, ((epR_iff p).1 h1).1⟩]
theorem ldL_none {ds : DS} (hd : ds.down = false) (h : fget ds.S lgL = none) : ldL ds = (0, ⟨0, []⟩, ds) := by
  unfold ldL
  rw [rd_none hd h, load_none]; rfl
theorem ldL_some {ds : DS} (hd : ds.down = false) {l : Lg} (hl : RtL l) {a : Nat} (h : fget ds.S lgL = some (encB l, a)) : ldL ds = (0, l, ds) := by
  unfold ldL
  obtain ⟨e1, e2⟩ := rd_some hd h
  rw [e1, e2, mk_list, load_whole hl]; rfl
theorem fil_ok {N : Nat} {S : FS} {p : Int} (h : Fil N S p) : epOk p = true := by
  rcases h.pr with ⟨rfl, _⟩ | ⟨h1, _⟩
  · rfl
  · exact epR_ok h1

/-- What a node has that is opened behind a crash. -/
structure Again (N : Nat) (S : FS) (p : Int) (l : Lg) : Prop where
  ex : ∃ ds' l', openQ ⟨400000, 0, false, S⟩ = (0, ds', ⟨p, l', false⟩) ∧ Dv N ds' ⟨p, l', false⟩ ∧ l'.ep = l.ep ∧ l'.es.take l.es.length = l.es
theorem again_of {N : Nat} {S : FS} {p : Int} (hF : Fil N S p) {l l' : Lg} {ds' : DS} (h : ldL ⟨400000, 0, false, S⟩ = (0, l', ds')) (hR : Run 400000 ds') (hF' : Fil N ds'.S p) (hL : LgF ds'.S l') (hl : RtL l') (h1 : l'.ep = l.ep) (h2 : l'.es.take l.es.length = l.es) : Again N S p l := by
  refine ⟨ds', l', ?_, ⟨hR, hF', hL, ⟨hl, fil_ok hF, fun e => by cases e⟩, rfl⟩, h1, h2⟩
  unfold openQ
  rw [ldP_fil (ds := ⟨400000, 0, false, S⟩) rfl hF, h]
  rfl
theorem run0 (S : FS) : Run 400000 ⟨400000, 0, false, S⟩ := ⟨rfl, rfl, by simp⟩
theorem ext_take (s : ByteArray) (k : Nat) : (s.extract 0 k).data.toList = s.data.toList.take k := cut_list s k
theorem bytes_of_list {s t : ByteArray} (h : s.data.toList = t.data.toList) : s = t := Go.WideShapes.bytes_inj h

theorem lost_open {N : Nat} (hN : N ≤ 187224) {ds : DS} {p : Int} {l : Lg} (h : Lost N ds p l) (ks : List Int) : Again N (crashL ks ds.S) p l := by
  have hF := crash_fil h.fil ks
  have htk : l.es.take l.es.length = l.es := List.take_length
  rcases h.lg with hL | ⟨x, hx, hL⟩
  · rcases hL with ⟨hl0, hg⟩ | hg
    · have hg2 := crash_none h.fil.rise ks hg
      refine again_of hF (ldL_none rfl hg2) (run0 _) hF (.inl ⟨rfl, hg2⟩) rt_none (by rw [hl0]) (by rw [hl0]; rfl)
    · have hg2 := crash_full h.fil.rise ks (enc_ne l) hg
      exact again_of hF (ldL_some rfl h.rt hg2) (run0 _) hF (.inr hg2) h.rt rfl htk
  · obtain ⟨k, hk, hg⟩ := crash_torn h.fil.rise ks (enc_ne l) hL
    have hel : (encE x).data.toList.length = (encE x).size := Wir.size_list _
    rcases Nat.lt_or_ge k (encE x).size with h1 | h1
    · have hb : (⟨(encB l ++ (encE x).data.toList.take k).toArray⟩ : ByteArray) = encL l ++ (encE x).extract 0 k := bytes_of_list (by rw [app_list, ext_take])
      obtain ⟨e1, e2⟩ := rd_some (ds := ⟨400000, 0, false, crashL ks ds.S⟩) rfl hg
      rw [hb] at e2
      have hsz : ((encE x).extract 0 k).size = k := by rw [ByteArray.size_extract]; omega
      have hld := load_some (parse_torn h.rt x k h1)
      rw [hsz] at hld
      by_cases hk0 : k = 0
      · subst hk0
        rw [List.take_zero, List.append_nil] at hg
        exact again_of hF (ldL_some rfl h.rt hg) (run0 _) hF (.inr hg) h.rt rfl htk
      · have hxo := hx.2.2 l.es.length (by simp)
        simp only [List.getElem_concat_length] at hxo
        have hl3 := hx.2.1
        simp only [List.length_append, List.length_singleton] at hl3
        have hz := encE_size (x := x) (by have := hxo.1; omega) (by have := hxo.1; omega) hxo.2
        have ht := enc_top h.rt
        have hbl := encB_len l
        obtain ⟨e, ds', hq, hw⟩ := sto_lg (N := N) (run0 (crashL ks ds.S)) hF h.rt (by
          show ((flen (fget (crashL ks ds.S) lgL) + 48 + (encL l).size : Nat) : Int) ≤ 400000
          rw [hg]
          show (((encB l ++ (encE x).data.toList.take k).length + 48 + (encL l).size : Nat) : Int) ≤ 400000
          rw [List.length_append, List.length_take]
          omega) (fun e => absurd rfl e)
        rcases hw with ⟨rfl, k1, k2, k3⟩ | ⟨rfl, k1, _, _⟩
        · refine again_of hF (l' := l) (ds' := ds') ?_ ⟨k1.room, k1.up, k1.fu⟩ k2 (.inr k3) h.rt rfl htk
          unfold ldL
          rw [e1, e2, hld]
          simp only [decide_eq_false hk0]
          rw [if_neg (by omega), if_pos trivial, if_neg (by simp), hq]
          rfl
        · exact absurd rfl k1.f0
    · have hk2 : (encE x).data.toList.take k = (encE x).data.toList := List.take_of_length_le (by omega)
      have hsn : encB l ++ (encE x).data.toList = encB ⟨l.ep, l.es ++ [x]⟩ := by
        show (encL l).data.toList ++ _ = (encL ⟨l.ep, l.es ++ [x]⟩).data.toList
        rw [encL_snoc, Wir.app_list]
      have hlen : encB l ++ (encE x).data.toList = encB ⟨l.ep, l.es ++ [x]⟩ → (encB l).length + k = (encB ⟨l.ep, l.es ++ [x]⟩).length := fun e => by
        rw [← e, List.length_append]; omega
      rw [hk2, hlen hsn, hsn] at hg
      exact again_of hF (ldL_some rfl hx hg) (run0 _) hF (.inr hg) hx rfl (by simp)

/-! ### nothing gets less -/
/-- What a node had is in what it has. -/
structure More (j j' : Nd) : Prop where
  p : j.p ≤ j'.p
  ep : j.l.ep ≤ j'.l.ep
  es : j'.l.ep = j.l.ep → j'.l.es.take j.l.es.length = j.l.es
  below : j'.l.ep ≤ j'.p
theorem More.refl {j : Nd} (h : j.l.ep ≤ j.p) : More j j := ⟨Int.le_refl _, Int.le_refl _, fun _ => List.take_length, h⟩
theorem prom_more {ds : DS} {j : Nd} {ep : Int} (h : j.l.ep ≤ j.p) (hg : (promQ ds j ep).j.gone = false) : More j (promQ ds j ep).j := by
  unfold promQ at hg ⊢
  split
  · exact .refl h
  · rename_i h1
    rw [if_neg h1] at hg
    split
    · exact ⟨by simp only; omega, Int.le_refl _, fun _ => List.take_length, by simp only; omega⟩
    · rename_i h2
      rw [if_neg h2] at hg
      cases hg
theorem fresh_more {ds : DS} {j j0 : Nd} {ep : Int} {es : List En} (hp : j0.p ≤ j.p) (he : j.p = ep) (hl : j0.l.ep ≤ j0.p) (hne : ep ≠ j0.l.ep) (hg : (fresh ds j ep es).j.gone = false) : More j0 (fresh ds j ep es).j := by
  unfold fresh at hg ⊢
  split
  · exact ⟨hp, by simp only; omega, fun e => absurd e hne, by simp only; omega⟩
  · rename_i h2
    rw [if_neg h2] at hg
    cases hg
theorem acc_more {ds : DS} {j : Nd} {ep : Int} {es : List En} (ha : j.gone = false) (h : j.l.ep ≤ j.p) (hg : (accQ ds j ep es).j.gone = false) : More j (accQ ds j ep es).j := by
  unfold accQ at hg ⊢
  split
  · exact .refl h
  · rename_i h1
    rw [if_neg h1] at hg
    split
    · exact .refl h
    · rename_i h2
      rw [if_neg h2] at hg
      split
      · rename_i h3
        rw [if_pos h3] at hg
        split
        · rename_i h4
          rw [if_pos h4] at hg
          have hon := promQ_on ha h4
          exact fresh_more (by rw [hon]; simp only; omega) (by rw [hon]) h h2 hg
        · rename_i h4
          rw [if_neg h4] at hg
          exact prom_more h hg
      · rename_i h3
        rw [if_neg h3] at hg
        exact fresh_more (Int.le_refl _) (by omega) h h2 hg
theorem add_more {ds : DS} {j : Nd} {ep : Int} {x : En} (h : j.l.ep ≤ j.p) (hg : (addQ ds j ep x).j.gone = false) : More j (addQ ds j ep x).j := by
  unfold addQ at hg ⊢
  split
  · exact .refl h
  · rename_i h1
    rw [if_neg h1] at hg
    split
    · exact .refl h
    · rename_i h2
      rw [if_neg h2] at hg
      split
      · exact .refl h
      · rename_i h3
        rw [if_neg h3] at hg
        split
        · exact ⟨Int.le_refl _, Int.le_refl _, fun _ => by simp, h⟩
        · rename_i h4
          rw [if_neg h4] at hg
          cases hg
theorem hand_more {ds : DS} {j : Nd} (ha : j.gone = false) (h : j.l.ep ≤ j.p) (s : ByteArray) (hg : (handQ ds j s).j.gone = false) : More j (handQ ds j s).j := by
  have hn : ¬ j.gone = true := by rw [ha]; simp
  unfold handQ at hg ⊢
  rw [if_neg hn] at hg ⊢
  cases hr : readQ s with
  | none => exact .refl h
  | some r =>
    rw [hr] at hg
    simp only at hg ⊢
    cases r with
    | prom ep => exact prom_more h hg
    | acc ep es => exact acc_more ha h hg
    | add ep x => exact add_more h hg

/-- With a fuse. -/
theorem Dv.fuse {N : Nat} {ds : DS} {j : Nd} (h : Dv N ds j) {f : Int} (hf : 0 ≤ f) : Dv N { ds with fuse := f } j := ⟨⟨h.run.room, h.run.up, hf⟩, h.fil, h.lg, h.ok, h.alive⟩
end Go.Proofs.YtfmhmokbbkliaaaGreat.Jrn

/- The contract of tabulariumref15.Open. -/
namespace Go.Proofs.YtfmhmokbbkliaaaGreat.Jrn
open Go.RowKit Go.Proofs.YtfmhmokbbkliaaaGreat Go.Proofs.YtfmhmokbbkliaaaGreat.Wir Go.Proofs.YtfmhmokbbkliaaaGreat.Lgg Go.Proofs.YtfmhmokbbkliaaaGreat.Sep
open Go.Proofs.YtfmhmokbbkliaaaGreat.Smm (openT refOpen_any bytes_ne)
set_option linter.unusedVariables false

set_option maxRecDepth 100000 in
set_option maxHeartbeats 4000000 in
theorem refLoad_cel {O : Nat → Prop} {w : World} {px : Nat} {xa : Option Addr} {xc : Nat} {xg : Option Nat} {ds : DS} (h : RAt O w px xa xc xg ds) (hf : Fit ds) (s : ByteArray) (b : ByteArray) (hbm : b.size ≤ maxLen) (ht : rdT ds s.data.toList = b) (q : Int) (hq : rdE ds s.data.toList = q) (l : Lg) (wh : Bool) (er : Int) (hl : loadS b q = (l, wh, er)) :
    Calls Tryz.prog 61 #[.pointer (some ⟨px, 0, none⟩), .string s] w fun e w' => LdC w.heap.size l wh er e w' ∧ Below w.heap.size w w' := by
  have HR : Hid (∀ W, Below w.heap.size w W → Calls Tryz.prog 59 #[.pointer (some ⟨px, 0, none⟩), .string s] W fun e w' => e = .returned (.tuple #[.string b, .int .i64 q]) ∧ W = w') := fun W hb => (refRead_val (h.below hb) hf s.data.toList b q ht hq).mono fun e w' ⟨k1, k2⟩ => ⟨k1, k2.symm⟩
  have hst2 : ∀ (w : World) (a : Addr) (x : Option Addr) (n c : Nat) (m : Mode), (store a (.slice x n c) m).run Tryz.prog w = stored Tryz.prog w a (.slice x n c) m := fun w a x n c m => run_store (P := Tryz.prog) w a _ m rfl
  have y0 : (w.alloc (.cells #[.int .i64 0, .slice none 0 0] 34)).cell? ⟨w.heap.size, 0, none⟩ = some (.int .i64 0) := World.cell?_alloc_new w _ _ 0
  have y1 : (w.alloc (.cells #[.int .i64 0, .slice none 0 0] 34)).cell? ⟨w.heap.size, 1, none⟩ = some (.slice none 0 0) := World.cell?_alloc_new w _ _ 1
  have fz : ∀ j, (w.alloc (.cells #[.int .i64 0, .slice none 0 0] 34)).frozen? ⟨w.heap.size, j, none⟩ = false := fun j => World.frozen?_alloc_new w _ _ j
  have B0 : Hid (Below w.heap.size w (w.alloc (.cells #[.int .i64 0, .slice none 0 0] 34)) ∧ w.heap.size < (w.alloc (.cells #[.int .i64 0, .slice none 0 0] 34)).heap.size) := ⟨bel_al _ _, by simp⟩
  clear h hf ht hq
  unfold loadS at hl
  by_cases h0 : q = 0
  · rw [if_pos h0] at hl
    subst h0
    cases hp : parseL b with
    | none =>
      rw [hp] at hl
      simp only [Prod.mk.injEq] at hl
      obtain ⟨rfl, rfl, rfl⟩ := hl
      have hE : epochP b = none := by
        unfold parseL at hp
        cases hE : epochP b with
        | none => rfl
        | some p => rw [hE] at hp; cases hp
      have HP : Hid (∀ W, Calls Tryz.prog 54 #[.string b] W fun e w' => e = .returned (.tuple #[.agg #[.int .i64 0, .slice none 0 0], .bool false, .bool false]) ∧ Below W.heap.size W w') := fun W => refParse_no b hbm hE W
      clear hE hp hbm
      go_enter Tryz.func61, Tryz.ntmps61
      go_wp2_with (first
        | (go_at_call 59; refine (HR.out _ B0.out.1).mono ?_; rintro e wr ⟨rfl, rfl⟩)
        | fail)
      generalize w.alloc (.cells #[.int .i64 0, .slice none 0 0] 34) = W1 at *
      refine (HP.out _).mono ?_
      rintro e w2 ⟨rfl, b2⟩
      have bb : ∀ o, Below W1.heap.size W1 (w2.alloc o) := fun o => bel_tr b2 (bel_al _ _)
      have u0 := fun o => bel_cell (bb o) y0
      have u1 := fun o => bel_cell (bb o) y1
      have g0 := fun o => (World.frozen?_of_block (a := ⟨w.heap.size, 0, none⟩) ((bb o).block w.heap.size B0.out.2)).trans (fz 0)
      have g1 := fun o => (World.frozen?_of_block (a := ⟨w.heap.size, 1, none⟩) ((bb o).block w.heap.size B0.out.2)).trans (fz 1)
      have B2 : Hid (∀ o, Below w.heap.size w (w2.alloc o)) := fun o => bel_tr B0.out.1 (bb o)
      clear b2 bb y0 y1 fz
      go_wp2
      obtain ⟨z0, z1⟩ := two_set (u' := .int .i64 0) (v' := .slice none 0 0) (u0 (.cells #[.int .i64 0, .slice none 0 0] 34)) (u1 (.cells #[.int .i64 0, .slice none 0 0] 34))
      refine bodyPost_ret (v := .tuple #[.agg #[.int .i64 0, .slice none 0 0], .bool false, .int .i64 2]) ?_ rfl ⟨⟨none, 0, none, rfl, .nil rfl rfl rfl⟩, Below.setCell (Below.setCell (B2.out _) (Nat.le_refl _) _) (Nat.le_refl _) _⟩
      simp only [results, Tryz.results61]
      simp [go_sem, z0, z1]
    | some p =>
      obtain ⟨l', R⟩ := p
      rw [hp] at hl
      simp only [Prod.mk.injEq] at hl
      obtain ⟨rfl, hwh, rfl⟩ := hl
      have HP : Hid (∀ W, Calls Tryz.prog 54 #[.string b] W fun e w' => ParR W.heap.size l' wh e w' ∧ Below W.heap.size W w') := fun W => refParse_yes b hbm l' R hp wh hwh W
      clear hp hbm hwh
      go_enter Tryz.func61, Tryz.ntmps61
      go_wp2_with (first
        | (go_at_call 59; refine (HR.out _ B0.out.1).mono ?_; rintro e wr ⟨rfl, rfl⟩)
        | fail)
      generalize w.alloc (.cells #[.int .i64 0, .slice none 0 0] 34) = W1 at *
      refine (HP.out _).mono ?_
      rintro e w2 ⟨⟨a, c, g, rfl, hC⟩, b2⟩
      obtain ⟨n, hn⟩ : ∃ n, l'.es.length = n := ⟨_, rfl⟩
      rw [hn] at hC ⊢
      have HN : Hid (l'.es.length = n) := hn
      have bb := bel_tr b2 (bel_al w2 (.cells #[.int .i64 l'.ep, .slice a n c] 34))
      have u0 := bel_cell bb y0
      have u1 := bel_cell bb y1
      have g0 := (World.frozen?_of_block (a := ⟨w.heap.size, 0, none⟩) (bb.block w.heap.size B0.out.2)).trans (fz 0)
      have g1 := (World.frozen?_of_block (a := ⟨w.heap.size, 1, none⟩) (bb.block w.heap.size B0.out.2)).trans (fz 1)
      obtain ⟨v0, v1, _, _⟩ := cells2 w2 (.int .i64 l'.ep) (.slice a n c) 34
      have B2 : Hid (Below w.heap.size w (w2.alloc (.cells #[.int .i64 l'.ep, .slice a n c] 34))) := bel_tr B0.out.1 bb
      have HC2 : Hid (Cel (fun k => W1.heap.size ≤ k) (w2.alloc (.cells #[.int .i64 l'.ep, .slice a n c] 34)) 2 (.slice a n c) n (rowC enC l'.es) g) := hC.below (bel_al _ _)
      have hlt : ¬ w2.heap.size = w.heap.size := by have h9 := b2.size; have h10 := B0.out.2; omega
      have hlt2 : ¬ w.heap.size = w2.heap.size := fun e => hlt e.symm
      clear hC b2 bb y0 y1 fz hn
      obtain ⟨z0, z1⟩ := two_set (u' := .int .i64 l'.ep) (v' := .slice a n c) u0 u1
      have HF : Hid (LdC w.heap.size l' wh 0 (.returned (.tuple #[.agg #[.int .i64 l'.ep, .slice a n c], .bool wh, .int .i64 0])) (((w2.alloc (.cells #[.int .i64 l'.ep, .slice a n c] 34)).setCell ⟨w.heap.size, 0, none⟩ (.int .i64 l'.ep)).setCell ⟨w.heap.size, 1, none⟩ (.slice a n c))) := by
        have h8 := HC2.out
        have hne : g ≠ some w.heap.size := fun e => by rw [e] at h8; have h9 : W1.heap.size ≤ w.heap.size := h8.lt.2; have := B0.out.2; omega
        have h7 := (h8.setOut ⟨w.heap.size, 0, none⟩ (.int .i64 l'.ep) hne).setOut ⟨w.heap.size, 1, none⟩ (.slice a n c) hne
        have h6 : Cel (fun k => w.heap.size ≤ k) (((w2.alloc (.cells #[.int .i64 l'.ep, .slice a n c] 34)).setCell ⟨w.heap.size, 0, none⟩ (.int .i64 l'.ep)).setCell ⟨w.heap.size, 1, none⟩ (.slice a n c)) 2 (.slice a l'.es.length c) l'.es.length (rowC enC l'.es) g := by
          rw [HN.out]
          exact h7.stay (Nat.le_refl _) (fun _ _ => rfl) (fun k hk => by have h9 : W1.heap.size ≤ k := hk; have := B0.out.2; omega)
        exact ⟨a, c, g, by rw [HN.out], h6⟩
      clear HC2
      go_wp2
      refine bodyPost_ret (v := .tuple #[.agg #[.int .i64 l'.ep, .slice a n c], .bool wh, .int .i64 0]) ?_ rfl ⟨HF.out, Below.setCell (Below.setCell B2.out (Nat.le_refl _) _) (Nat.le_refl _) _⟩
      simp only [results, Tryz.results61]
      simp [go_sem, z0, z1]
  · rw [if_neg h0] at hl
    simp only [Prod.mk.injEq] at hl
    obtain ⟨rfl, rfl, rfl⟩ := hl
    have hqb : (q == 0) = false := beq_eq_false_iff_ne.2 h0
    go_enter Tryz.func61, Tryz.ntmps61
    have f0 := fz 0
    have f1 := fz 1
    go_wp2_with (go_at_call 59; refine (HR.out _ B0.out.1).mono ?_; rintro e wr ⟨rfl, rfl⟩)
    refine bodyPost_ret (v := .tuple #[.agg #[.int .i64 0, .slice none 0 0], .bool false, .int .i64 q]) ?_ rfl ⟨⟨none, 0, none, rfl, .nil rfl rfl rfl⟩, B0.out.1⟩
    simp only [results, Tryz.results61]
    simp [go_sem]


/-! ### what is read of the promise -/
theorem goL_more : ∀ (f : Nat) (es : List En) (b : ByteArray), es.length ≤ (goL f es b).1.length
  | 0, es, b => by unfold goL; exact Nat.le_refl _
  | f + 1, es, b => by
    unfold goL
    split
    · rename_i d r _
      refine Nat.le_trans ?_ (goL_more f _ r)
      simp
    · exact Nat.le_refl _
theorem goL_none {f : Nat} {b : ByteArray} (h : (goL (f + 1) [] b).1.length = 0) : (goL (f + 1) [] b).2 = b := by
  unfold goL at h ⊢
  split at h
  · rename_i d r _
    have h9 := goL_more f ([] ++ [⟨((([] : List En).length + 1 : Nat) : Int), d⟩]) r
    rw [h] at h9
    simp at h9
  · rfl
/-- What the reference asks of the promise's file. -/
def prOk (T R : ByteArray) (E : Nat) : Option Int := if E = 0 then (if R.size = 0 then (match numP T with | some n => if epR n = true then some n else none | none => none) else none) else none
theorem ldP_of {ds : DS} {b : ByteArray} (ht : rdT ds prN.data.toList = b) (hq : rdE ds prN.data.toList = 0) : ldP ds = match parseL b with | some (l, R) => if R.size = 0 ∧ l.es.length = 0 ∧ 1 ≤ l.ep then (0, l.ep) else (2, 0) | none => (2, 0) := by
  unfold ldP loadS
  rw [ht, hq]
  cases parseL b with
  | none => rfl
  | some p => obtain ⟨l, R⟩ := p; simp
theorem ldP_read {ds : DS} {b T R : ByteArray} {E : Nat} (ht : rdT ds prN.data.toList = b) (hq : rdE ds prN.data.toList = 0) (hO : openT b = (T, R, E)) : ldP ds = match prOk T R E with | some n => (0, n) | none => (2, 0) := by
  obtain ⟨n, d, ok, hk⟩ := tk_ex T
  have htp := takeP_of hO hk
  have hnp := numP_of hk
  rw [ldP_of ht hq]
  by_cases hE : E = 0 ∧ ok = true
  · rw [if_pos hE] at htp
    by_cases hd : d.size = 0
    · rw [if_pos ⟨hE.2, hd⟩] at hnp
      by_cases hep : epOk n = true
      · have hpe : epochP b = some (n, R) := by unfold epochP; rw [htp]; simp only; rw [if_pos ⟨hep, hd⟩]
        have hpl : parseL b = some (⟨n, (goL 300 [] R).1⟩, (goL 300 [] R).2) := by unfold parseL; rw [hpe]
        rw [hpl]
        have hei := ep_in hep
        by_cases hR : R.size = 0
        · have hRe : R = ⟨#[]⟩ := by
            apply Go.WideShapes.bytes_inj
            have h8 : R.data.toList.length = 0 := by rw [Wir.size_list]; exact hR
            rw [List.length_eq_zero_iff.1 h8]
          have hg : goL 300 [] R = ([], ⟨#[]⟩) := by rw [hRe]; exact goL_stop entry_empty _ _
          rw [hg]
          by_cases h1 : 1 ≤ n
          · have h2 : prOk T R E = some n := by
              unfold prOk
              rw [if_pos hE.1, if_pos hR, hnp]
              simp only
              rw [if_pos ((epR_iff n).2 ⟨h1, by unfold maxN; exact hei.2⟩)]
            rw [h2]
            simp only
            rw [if_pos ⟨rfl, rfl, h1⟩]
          · have h2 : prOk T R E = none := by
              unfold prOk
              rw [if_pos hE.1, if_pos hR, hnp]
              simp only
              rw [if_neg (fun e => h1 ((epR_iff n).1 e).1)]
            rw [h2]
            simp only
            rw [if_neg (fun e => h1 e.2.2)]
        · have h2 : prOk T R E = none := by unfold prOk; rw [if_pos hE.1, if_neg hR]
          rw [h2]
          simp only
          rw [if_neg (fun e => ?_)]
          have h9 := goL_none (f := 299) e.2.1
          have h8 : (goL 300 [] R).2 = R := h9
          have h7 := e.1
          rw [h8] at h7
          exact hR h7
      · have hpe : epochP b = none := by unfold epochP; rw [htp]; simp only; rw [if_neg (fun e => hep e.1)]
        have hpl : parseL b = none := by unfold parseL; rw [hpe]
        have h2 : prOk T R E = none := by
          unfold prOk
          rw [if_pos hE.1, hnp]
          simp only
          rw [if_neg (fun e => hep (epR_ok e))]
          split <;> rfl
        rw [hpl, h2]
    · rw [if_neg (fun e => hd e.2)] at hnp
      have hpe : epochP b = none := by
        unfold epochP; rw [htp]; simp only; rw [if_neg]
        intro e
        exact hd e.2
      have hpl : parseL b = none := by unfold parseL; rw [hpe]
      have h2 : prOk T R E = none := by
        unfold prOk
        rw [if_pos hE.1, hnp]
        split <;> rfl
      rw [hpl, h2]
  · rw [if_neg hE] at htp
    have hpe : epochP b = none := by unfold epochP; rw [htp]
    have hpl : parseL b = none := by unfold parseL; rw [hpe]
    have h2 : prOk T R E = none := by
      unfold prOk
      by_cases h0 : E = 0
      · have hok : ¬ (ok = true ∧ d.size = 0) := fun e => hE ⟨h0, e.1⟩
        rw [if_neg hok] at hnp
        rw [if_pos h0, hnp]
        split <;> rfl
      · rw [if_neg h0]
    rw [hpl, h2]
theorem ldP_err {ds : DS} {q : Int} (hq : rdE ds prN.data.toList = q) (h0 : q ≠ 0) : ldP ds = if q = 5 then (0, 0) else (q, 0) := by
  unfold ldP
  rw [hq]
  unfold loadS
  rw [if_neg h0]
  simp only
  rw [if_neg h0]

/-- A disk on which the reference's node is opened. -/
structure OpnX (w : World) (O : Nat → Prop) (px : Nat) (o : Int × DS × Nd) (e : Ending) (w' : World) : Prop where
  yes : o.1 = 0 → ∃ yp, e = .returned (.tuple #[.pointer (some ⟨yp, 0, none⟩), .int .i64 0]) ∧ Hz w O [rj yp px o.2.1 o.2.2] w'
  no : o.1 ≠ 0 → e = .returned (.tuple #[.pointer none, .int .i64 o.1]) ∧ Hz w O [xdk px o.2.1] w'

set_option maxRecDepth 100000 in
set_option maxHeartbeats 8000000 in
theorem refOpen15_val {O : Nat → Prop} {w : World} {px : Nat} {ds : DS} (h : (xdk px ds).A O w) :
    Calls Tryz.prog 22 #[.pointer (some ⟨px, 0, none⟩)] w fun e w' => OpnX w O px (openQ ds) e w' := by
  have hst2 : ∀ (w : World) (a : Addr) (x : Option Addr) (n c : Nat) (m : Mode), (store a (.slice x n c) m).run Tryz.prog w = stored Tryz.prog w a (.slice x n c) m := fun w a x n c m => run_store (P := Tryz.prog) w a _ m rfl
  have hst3 : ∀ (w : World) (a : Addr) (x : Option Addr) (m : Mode), (store a (.pointer x) m).run Tryz.prog w = stored Tryz.prog w a (.pointer x) m := fun w a x m => run_store (P := Tryz.prog) w a _ m rfl
  obtain ⟨⟨ra, rc, rg, hrat⟩, hfit⟩ := h
  have hz0 : Hz w O [xdk px ds] w := Hz.start ⟨O, fun _ => False, ⟨⟨ra, rc, rg, hrat⟩, hfit⟩, fun _ e => e.elim, fun _ _ e => e, fun _ e => e, fun _ e => e.elim, hrat.lt⟩
  have HZ1 : Hid (Hz w O [box w.heap.size [.pointer (some ⟨px, 0, none⟩), .int .i64 0, .int .i64 0, .slice none 0 0, .bool false], xdk px ds] (w.alloc (.cells #[.pointer (some ⟨px, 0, none⟩), .int .i64 0, .int .i64 0, .slice none 0 0, .bool false] 104))) := hz0.box _ _
  have HFIT : Hid (Fit ds) := hfit
  clear hz0 hrat hfit
  obtain ⟨b, hb⟩ : ∃ b, rdT ds prN.data.toList = b := ⟨_, rfl⟩
  obtain ⟨q, hq⟩ : ∃ q, rdE ds prN.data.toList = q := ⟨_, rfl⟩
  have hbs : b.size ≤ maxLen := by rw [← hb]; exact rd_size HFIT.out _
  have CR : Hid (∀ W, Hz w O [box w.heap.size [.pointer (some ⟨px, 0, none⟩), .int .i64 0, .int .i64 0, .slice none 0 0, .bool false], xdk px ds] W → Calls Tryz.prog 59 #[.pointer (some ⟨px, 0, none⟩), .string prN] W fun e w' => e = .returned (.tuple #[.string b, .int .i64 q]) ∧ W = w') := fun W hW => by
    obtain ⟨O1, ⟨a1, c1, g1, hr⟩, hf⟩ := hW.get 1 rfl
    exact (refRead_val hr hf prN.data.toList b q hb hq).mono fun e w' ⟨k1, k2⟩ => ⟨k1, k2.symm⟩
  have hop : openQ ds = if (ldP ds).1 = 0 then (if (ldL ds).1 = 0 then (0, (ldL ds).2.2, ⟨(ldP ds).2, (ldL ds).2.1, false⟩) else ((ldL ds).1, (ldL ds).2.2, deadN)) else ((ldP ds).1, ds, deadN) := rfl
  obtain ⟨o, ho⟩ : ∃ o, openQ ds = o := ⟨_, rfl⟩
  rw [ho] at hop ⊢
  clear ho
  go_enter Tryz.func22, Tryz.ntmps22
  go_upto_region 2 with fail
  generalize w.alloc (.cells #[.pointer (some ⟨px, 0, none⟩), .int .i64 0, .int .i64 0, .slice none 0 0, .bool false] 104) = W1 at *
  generalize w.heap.size = yp at *
  go_upto_region 3 with (go_at_call 59; refine (CR.out _ HZ1.out).mono ?_; rintro e wr ⟨rfl, rfl⟩)
  by_cases hq0 : q = 0
  case neg =>
    have hlp := ldP_err hq hq0
    have hb0 : (q == 0) = false := beq_eq_false_iff_ne.2 hq0
    have hb0' : (q != 0) = true := by simp [hq0]
    by_cases hq5 : q = 5
    · rw [if_pos hq5] at hlp
      subst hq5
      clear hb hq hq0 hbs
      have hP0 : ldP ds = (0, 0) := hlp
      rw [hP0] at hop
      clear hlp hP0
      go_upto_region 11 with fail
      obtain ⟨⟨⟨lep, les⟩, wh, le⟩, hl⟩ : ∃ x, loadS (rdT ds lgN.data.toList) (rdE ds lgN.data.toList) = x := ⟨_, rfl⟩
      have hlok := loadS_ok hl
      have hldl : ldL ds = if le = 5 then (0, ⟨0, []⟩, ds) else if le = 0 then (if wh = true then (0, ⟨lep, les⟩, ds) else if (stoR ds lgN (encL ⟨lep, les⟩)).1 = 0 then (0, ⟨lep, les⟩, (stoR ds lgN (encL ⟨lep, les⟩)).2) else ((stoR ds lgN (encL ⟨lep, les⟩)).1, ⟨0, []⟩, (stoR ds lgN (encL ⟨lep, les⟩)).2)) else (le, ⟨0, []⟩, ds) := by unfold ldL; rw [hl]
      have hl5 : le = 5 → lep = 0 ∧ les = [] := fun e => by
        unfold loadS at hl
        split at hl
        · split at hl
          · cases hl; cases e
          · cases hl; cases e
        · cases hl; exact ⟨rfl, rfl⟩
      obtain ⟨m, hm⟩ : ∃ m, les.length = m := ⟨_, rfl⟩
      have HM : Hid (les.length = m) := hm
      have CL : Hid (∀ W, Hz w O [box yp [.pointer (some ⟨px, 0, none⟩), .int .i64 0, .int .i64 0, .slice none 0 0, .bool false], xdk px ds] W → Calls Tryz.prog 61 #[.pointer (some ⟨px, 0, none⟩), .string lgN] W fun e w' => ∃ a c g, e = .returned (.tuple #[.agg #[.int .i64 lep, .slice a m c], .bool wh, .int .i64 le]) ∧ Hz w O [celT 2 (.slice a m c) m (rowC enC les) g, box yp [.pointer (some ⟨px, 0, none⟩), .int .i64 0, .int .i64 0, .slice none 0 0, .bool false], xdk px ds] w') := fun W hW => by
        obtain ⟨O1, ⟨a1, c1, g1, hr⟩, hf⟩ := hW.get 1 rfl
        refine (refLoad_cel hr hf lgN _ (rd_size hf _) rfl _ rfl _ wh le hl).mono ?_
        rintro e w' ⟨⟨a, c, g, k1, k2⟩, k3⟩
        simp only [hm] at k1 k2
        exact ⟨a, c, g, k1, put_celA hW k3 k2⟩
      have HLO : Hid (RtL ⟨lep, les⟩) := hlok
      have hop2 : o = if (ldL ds).1 = 0 then (0, (ldL ds).2.2, ⟨0, (ldL ds).2.1, false⟩) else ((ldL ds).1, (ldL ds).2.2, deadN) := hop
      clear hop hlok hl hm
      go_upto_region 12 with (go_at_call 61; refine (CL.out _ HZ1.out).mono ?_; rintro x w5 ⟨la, lc, lg, rfl, hz5⟩; have HZ5 : Hid (Hz w O [celT 2 (.slice la m lc) m (rowC enC les) lg, box yp [.pointer (some ⟨px, 0, none⟩), .int .i64 0, .int .i64 0, .slice none 0 0, .bool false], xdk px ds] w5) := hz5; clear hz5)
      have HZ6 : Hid (Hz w O [box w5.heap.size [.int .i64 lep, .slice la m lc], celT 2 (.slice la m lc) m (rowC enC les) lg, box yp [.pointer (some ⟨px, 0, none⟩), .int .i64 0, .int .i64 0, .slice none 0 0, .bool false], xdk px ds] (w5.alloc (.cells #[.int .i64 lep, .slice la m lc] 34))) := HZ5.out.box _ _
      clear HZ5 CL
      generalize w5.alloc (.cells #[.int .i64 lep, .slice la m lc] 34) = w6 at *
      generalize w5.heap.size = LB at *
      have y0 := HZ6.out.cell 0 rfl (j := 0) rfl
      have y1 := HZ6.out.cell 0 rfl (j := 1) rfl
      have v2 := HZ6.out.cell 2 rfl (j := 2) rfl
      have v3 := HZ6.out.cell 2 rfl (j := 3) rfl
      have f2 := HZ6.out.fr 2 rfl 2
      have f3 := HZ6.out.fr 2 rfl 3
      by_cases hle0 : le = 0
      · subst hle0
        rw [if_neg (show ¬ (0 : Int) = 5 by omega), if_pos (show (0 : Int) = 0 from rfl)] at hldl
        go_upto_region 15 with fail
        have HZ7 : Hid (Hz w O [box LB [.int .i64 lep, .slice la m lc], celT 2 (.slice la m lc) m (rowC enC les) lg, box yp [.pointer (some ⟨px, 0, none⟩), .int .i64 0, .int .i64 lep, .slice la m lc, .bool false], xdk px ds] ((w6.setCell ⟨yp, 2, none⟩ (.int .i64 lep)).setCell ⟨yp, 3, none⟩ (.slice la m lc))) := (HZ6.out.setBox 2 rfl 2 (.int .i64 lep) (by simp)).setBox 2 rfl 3 (.slice la m lc) (by simp)
        clear y0 y1 v2 v3 f2 f3 HZ6
        generalize (w6.setCell ⟨yp, 2, none⟩ (.int .i64 lep)).setCell ⟨yp, 3, none⟩ (.slice la m lc) = w7 at *
        cases wh with
        | true =>
          rw [if_pos (show true = true from rfl)] at hldl
          replace hop2 : o = (0, ds, ⟨0, ⟨lep, les⟩, false⟩) := by rw [hop2, hldl]; rfl
          subst hop2
          clear hldl
          go_wp2
          go_ret2
          have hm9 := HM.out
          subst hm9
          exact ⟨fun _ => ⟨yp, rfl, (rj_fold (M := []) (r := ⟨0, ⟨lep, les⟩, false⟩) (a := la) (c := lc) (g := lg) HZ7.out.less.swap.swap2)⟩, fun e => absurd rfl e⟩
        | false =>
          rw [if_neg (show ¬ false = true by simp)] at hldl
          obtain ⟨⟨q2, ds2⟩, hsq⟩ : ∃ x, stoR ds lgN (encL ⟨lep, les⟩) = x := ⟨_, rfl⟩
          rw [hsq] at hldl
          simp only at hldl
          have CST : Hid (∀ W, Hz w O [box LB [.int .i64 lep, .slice la m lc], celT 2 (.slice la m lc) m (rowC enC les) lg, box yp [.pointer (some ⟨px, 0, none⟩), .int .i64 0, .int .i64 lep, .slice la m lc, .bool false], xdk px ds] W → Calls Tryz.prog 62 #[.pointer (some ⟨px, 0, none⟩), .string lgN, .agg #[.int .i64 lep, .slice la m lc]] W fun e w' => e = .returned (.int .i64 q2) ∧ Hz w O [box LB [.int .i64 lep, .slice la m lc], celT 2 (.slice la m lc) m (rowC enC les) lg, box yp [.pointer (some ⟨px, 0, none⟩), .int .i64 0, .int .i64 lep, .slice la m lc, .bool false], xdk px ds2] w') := fun W h => by
            obtain ⟨O4, k4⟩ := h.get 1 rfl
            exact h.act 3 rfl (refStore_acts (lie_cel k4.1 HM.out) lep m lc HM.out HLO.out lgN lg_ok lg_small q2 hsq)
          have y0 := HZ7.out.cell 0 rfl (j := 0) rfl
          have y1 := HZ7.out.cell 0 rfl (j := 1) rfl
          clear hsq
          by_cases hq2 : q2 = 0
          · subst hq2
            rw [if_pos (show (0 : Int) = 0 from rfl)] at hldl
            replace hop2 : o = (0, ds2, ⟨0, ⟨lep, les⟩, false⟩) := by rw [hop2, hldl]; rfl
            subst hop2
            clear hldl
            go_wp2_with (go_at_call 62; refine (CST.out _ HZ7.out).mono ?_; rintro x w8 ⟨rfl, hz8⟩; have HZ8 : Hid (Hz w O [box LB [.int .i64 lep, .slice la m lc], celT 2 (.slice la m lc) m (rowC enC les) lg, box yp [.pointer (some ⟨px, 0, none⟩), .int .i64 0, .int .i64 lep, .slice la m lc, .bool false], xdk px ds2] w8) := hz8; clear hz8)
            go_ret2
            have hm9 := HM.out
            subst hm9
            exact ⟨fun _ => ⟨yp, rfl, (rj_fold (M := []) (r := ⟨0, ⟨lep, les⟩, false⟩) (a := la) (c := lc) (g := lg) HZ8.out.less.swap.swap2)⟩, fun e => absurd rfl e⟩
          · rw [if_neg hq2] at hldl
            replace hop2 : o = (q2, ds2, deadN) := by rw [hop2, hldl]; simp only; rw [if_neg hq2]
            subst hop2
            clear hldl
            have hb2 : (q2 == 0) = false := beq_eq_false_iff_ne.2 hq2
            have hb2' : (q2 != 0) = true := by simp [hq2]
            go_wp2_with (go_at_call 62; refine (CST.out _ HZ7.out).mono ?_; rintro x w8 ⟨rfl, hz8⟩; have HZ8 : Hid (Hz w O [box LB [.int .i64 lep, .slice la m lc], celT 2 (.slice la m lc) m (rowC enC les) lg, box yp [.pointer (some ⟨px, 0, none⟩), .int .i64 0, .int .i64 lep, .slice la m lc, .bool false], xdk px ds2] w8) := hz8; clear hz8)
            go_ret2
            exact ⟨fun e => absurd e hq2, fun _ => ⟨rfl, HZ8.out.less.less.less⟩⟩
      · have hbl0 : (le == 0) = false := beq_eq_false_iff_ne.2 hle0
        have hbl0' : (le != 0) = true := by simp [hle0]
        by_cases hle5 : le = 5
        · subst hle5
          obtain ⟨rfl, rfl⟩ := hl5 rfl
          rw [if_pos (show (5 : Int) = 5 from rfl)] at hldl
          replace hop2 : o = (0, ds, ⟨0, ⟨0, []⟩, false⟩) := by rw [hop2, hldl]; rfl
          subst hop2
          clear hldl
          have hm9 : 0 = m := HM.out
          subst hm9
          go_upto_region 15 with fail
          have HZ7 : Hid (Hz w O [box LB [.int .i64 0, .slice la 0 lc], celT 2 (.slice la 0 lc) 0 (rowC enC []) lg, box yp [.pointer (some ⟨px, 0, none⟩), .int .i64 0, .int .i64 0, .slice la 0 lc, .bool false], xdk px ds] ((w6.setCell ⟨yp, 2, none⟩ (.int .i64 0)).setCell ⟨yp, 3, none⟩ (.slice la 0 lc))) := (HZ6.out.setBox 2 rfl 2 (.int .i64 0) (by simp)).setBox 2 rfl 3 (.slice la 0 lc) (by simp)
          clear y0 y1 v2 v3 f2 f3 HZ6
          generalize (w6.setCell ⟨yp, 2, none⟩ (.int .i64 0)).setCell ⟨yp, 3, none⟩ (.slice la 0 lc) = w7 at *
          go_wp2
          go_ret2
          exact ⟨fun _ => ⟨yp, rfl, (rj_fold (M := []) (r := ⟨0, ⟨0, []⟩, false⟩) (a := la) (c := lc) (g := lg) HZ7.out.less.swap.swap2)⟩, fun e => absurd rfl e⟩
        · have hbl5 : (le == 5) = false := beq_eq_false_iff_ne.2 hle5
          have hbl5' : (le != 5) = true := by simp [hle5]
          rw [if_neg hle5, if_neg hle0] at hldl
          replace hop2 : o = (le, ds, deadN) := by rw [hop2, hldl]; simp only; rw [if_neg hle0]
          subst hop2
          clear hldl
          go_wp2
          go_ret2
          exact ⟨fun e => absurd e hle0, fun _ => ⟨rfl, HZ6.out.less.less.less⟩⟩
    · rw [if_neg hq5] at hlp
      have hb5 : (q == 5) = false := beq_eq_false_iff_ne.2 hq5
      have hb5' : (q != 5) = true := by simp [hq5]
      rw [hlp] at hop
      simp only at hop
      rw [if_neg hq0] at hop
      subst hop
      clear hb hq hbs hlp
      go_wp2
      go_ret2
      exact ⟨fun e => absurd e hq0, fun _ => ⟨rfl, HZ1.out.less⟩⟩
  case pos =>
  subst hq0
  obtain ⟨⟨T, R, E⟩, hO⟩ : ∃ x, openT b = x := ⟨_, rfl⟩
  have hlp := ldP_read hb hq hO
  have CO : Hid (∀ W, Calls Tryz.prog 60 #[.string b] W fun e w' => e = .returned (.tuple #[.string T, .string R, .int .i64 (E : Int)]) ∧ Below W.heap.size W w') := fun W => refOpen_any b T R E W hbs hO
  have hTs : T.size ≤ maxLen := by have := (openT_size hO).1; unfold maxLen; omega
  obtain ⟨n, v, hnum, hcall⟩ := refNumber_val T hTs
  have CN : Hid (∀ w, Calls Tryz.prog 53 #[.string T] w fun e w' => e = .returned (.tuple #[.int .i64 n, .bool v]) ∧ Below w.heap.size w w') := hcall
  clear hb hq hbs hO hTs hcall
  go_upto_region 7 with (go_at_call 60; refine (CO.out _).mono ?_; rintro e w2 ⟨rfl, b2⟩; have HZ2 : Hid (Hz w O [box yp [.pointer (some ⟨px, 0, none⟩), .int .i64 0, .int .i64 0, .slice none 0 0, .bool false], xdk px ds] w2) := HZ1.out.below b2; clear b2)
  go_upto_region 8 with (go_at_call 53; refine (CN.out _).mono ?_; rintro e w3 ⟨rfl, b3⟩; have HZ3 : Hid (Hz w O [box yp [.pointer (some ⟨px, 0, none⟩), .int .i64 0, .int .i64 0, .slice none 0 0, .bool false], xdk px ds] w3) := HZ2.out.below b3; clear b3)
  clear CO CN CR HZ1 HZ2
  have hways : (prOk T R E = none ∧ (¬ (E : Int) = 0 ∨ ((E : Int) = 0 ∧ R.toList.isEmpty = false) ∨ ((E : Int) = 0 ∧ R = ⟨#[]⟩ ∧ v = false) ∨ ((E : Int) = 0 ∧ R = ⟨#[]⟩ ∧ v = true ∧ n < 1) ∨ ((E : Int) = 0 ∧ R = ⟨#[]⟩ ∧ v = true ∧ ¬ n < 1 ∧ 9007199254740991 < n))) ∨ (prOk T R E = some n ∧ (E : Int) = 0 ∧ R = ⟨#[]⟩ ∧ v = true ∧ ¬ n < 1 ∧ ¬ 9007199254740991 < n) := by
    unfold prOk
    rw [hnum]
    by_cases hE : E = 0
    · rw [if_pos hE]
      by_cases hR : R.size = 0
      · have hRe : R = ⟨#[]⟩ := by
          apply Go.WideShapes.bytes_inj
          have h8 : R.data.toList.length = 0 := by rw [Wir.size_list]; exact hR
          rw [List.length_eq_zero_iff.1 h8]
        rw [if_pos hR]
        cases v with
        | false => rw [if_neg (by simp)]; exact .inl ⟨by first | rfl | trivial, .inr (.inr (.inl ⟨by omega, hRe, rfl⟩))⟩
        | true =>
          rw [if_pos rfl]
          simp only
          by_cases h1 : n < 1
          · rw [if_neg (fun e => by have := ((epR_iff n).1 e).1; omega)]
            exact .inl ⟨by first | rfl | trivial, .inr (.inr (.inr (.inl ⟨by omega, hRe, by first | rfl | trivial, h1⟩)))⟩
          · by_cases h2 : 9007199254740991 < n
            · rw [if_neg (fun e => by have := ((epR_iff n).1 e).2; unfold maxN at this; omega)]
              exact .inl ⟨by first | rfl | trivial, .inr (.inr (.inr (.inr ⟨by omega, hRe, by first | rfl | trivial, h1, h2⟩)))⟩
            · rw [if_pos ((epR_iff n).2 ⟨by omega, by unfold maxN; omega⟩)]
              exact .inr ⟨by first | rfl | trivial, by omega, hRe, by first | rfl | trivial, h1, h2⟩
      · rw [if_neg hR]
        exact .inl ⟨by first | rfl | trivial, .inr (.inl ⟨by omega, is_empty (decide_eq_false hR)⟩)⟩
    · rw [if_neg hE]; exact .inl ⟨by first | rfl | trivial, .inl (by omega)⟩
  clear hnum
  obtain ⟨EI, hEI⟩ : ∃ x : Int, (E : Int) = x := ⟨_, rfl⟩
  rw [hEI] at hways ⊢
  rcases hways with ⟨hpo, hw5⟩ | ⟨hpo, rfl, rfl, rfl, hn1, hn2⟩
  · rw [hpo] at hlp
    simp only at hlp
    rw [hlp] at hop
    simp only at hop
    rw [if_neg (by omega)] at hop
    subst hop
    clear hpo hlp hEI
    rcases hw5 with h1 | ⟨rfl, h2⟩ | ⟨rfl, rfl, rfl⟩ | ⟨rfl, rfl, rfl, h3⟩ | ⟨rfl, rfl, rfl, h3, h4⟩
    · have hb1 : (EI == 0) = false := beq_eq_false_iff_ne.2 h1
      have hb2 : (EI != 0) = true := by simp [h1]
      go_wp2
      go_ret2
      exact ⟨fun e => absurd e (show ¬ (2 : Int) = 0 by omega), fun _ => ⟨rfl, HZ3.out.less⟩⟩
    · have h6 : (R.toList == []) = false := by
        cases hl : R.toList with
        | nil => rw [hl] at h2; cases h2
        | cons x l => rfl
      go_wp2
      go_ret2
      exact ⟨fun e => absurd e (show ¬ (2 : Int) = 0 by omega), fun _ => ⟨rfl, HZ3.out.less⟩⟩
    · go_wp2
      go_ret2
      exact ⟨fun e => absurd e (show ¬ (2 : Int) = 0 by omega), fun _ => ⟨rfl, HZ3.out.less⟩⟩
    · go_wp2
      go_ret2
      exact ⟨fun e => absurd e (show ¬ (2 : Int) = 0 by omega), fun _ => ⟨rfl, HZ3.out.less⟩⟩
    · go_wp2
      go_ret2
      exact ⟨fun e => absurd e (show ¬ (2 : Int) = 0 by omega), fun _ => ⟨rfl, HZ3.out.less⟩⟩
  · rw [hpo] at hlp
    simp only at hlp
    rw [hlp] at hop
    clear hpo hlp hEI
    have u1 := HZ3.out.cell 0 rfl (j := 1) rfl
    have uf := HZ3.out.fr 0 rfl 1
    go_upto_region 11 with fail
    have HZ4 : Hid (Hz w O [box yp [.pointer (some ⟨px, 0, none⟩), .int .i64 n, .int .i64 0, .slice none 0 0, .bool false], xdk px ds] (w3.setCell ⟨yp, 1, none⟩ (.int .i64 n))) := HZ3.out.setBox 0 rfl 1 (.int .i64 n) (by simp)
    clear u1 uf HZ3
    generalize w3.setCell ⟨yp, 1, none⟩ (.int .i64 n) = W4 at *
    obtain ⟨⟨⟨lep, les⟩, wh, le⟩, hl⟩ : ∃ x, loadS (rdT ds lgN.data.toList) (rdE ds lgN.data.toList) = x := ⟨_, rfl⟩
    have hlok := loadS_ok hl
    have hldl : ldL ds = if le = 5 then (0, ⟨0, []⟩, ds) else if le = 0 then (if wh = true then (0, ⟨lep, les⟩, ds) else if (stoR ds lgN (encL ⟨lep, les⟩)).1 = 0 then (0, ⟨lep, les⟩, (stoR ds lgN (encL ⟨lep, les⟩)).2) else ((stoR ds lgN (encL ⟨lep, les⟩)).1, ⟨0, []⟩, (stoR ds lgN (encL ⟨lep, les⟩)).2)) else (le, ⟨0, []⟩, ds) := by unfold ldL; rw [hl]
    have hl5 : le = 5 → lep = 0 ∧ les = [] := fun e => by
      unfold loadS at hl
      split at hl
      · split at hl
        · cases hl; cases e
        · cases hl; cases e
      · cases hl; exact ⟨rfl, rfl⟩
    obtain ⟨m, hm⟩ : ∃ m, les.length = m := ⟨_, rfl⟩
    have HM : Hid (les.length = m) := hm
    have CL : Hid (∀ W, Hz w O [box yp [.pointer (some ⟨px, 0, none⟩), .int .i64 n, .int .i64 0, .slice none 0 0, .bool false], xdk px ds] W → Calls Tryz.prog 61 #[.pointer (some ⟨px, 0, none⟩), .string lgN] W fun e w' => ∃ a c g, e = .returned (.tuple #[.agg #[.int .i64 lep, .slice a m c], .bool wh, .int .i64 le]) ∧ Hz w O [celT 2 (.slice a m c) m (rowC enC les) g, box yp [.pointer (some ⟨px, 0, none⟩), .int .i64 n, .int .i64 0, .slice none 0 0, .bool false], xdk px ds] w') := fun W hW => by
      obtain ⟨O1, ⟨a1, c1, g1, hr⟩, hf⟩ := hW.get 1 rfl
      refine (refLoad_cel hr hf lgN _ (rd_size hf _) rfl _ rfl _ wh le hl).mono ?_
      rintro e w' ⟨⟨a, c, g, k1, k2⟩, k3⟩
      simp only [hm] at k1 k2
      exact ⟨a, c, g, k1, put_celA hW k3 k2⟩
    have HLO : Hid (RtL ⟨lep, les⟩) := hlok
    have hop2 : o = if (ldL ds).1 = 0 then (0, (ldL ds).2.2, ⟨n, (ldL ds).2.1, false⟩) else ((ldL ds).1, (ldL ds).2.2, deadN) := hop
    clear hop hlok hl hm
    go_upto_region 12 with (go_at_call 61; refine (CL.out _ HZ4.out).mono ?_; rintro x w5 ⟨la, lc, lg, rfl, hz5⟩; have HZ5 : Hid (Hz w O [celT 2 (.slice la m lc) m (rowC enC les) lg, box yp [.pointer (some ⟨px, 0, none⟩), .int .i64 n, .int .i64 0, .slice none 0 0, .bool false], xdk px ds] w5) := hz5; clear hz5)
    have HZ6 : Hid (Hz w O [box w5.heap.size [.int .i64 lep, .slice la m lc], celT 2 (.slice la m lc) m (rowC enC les) lg, box yp [.pointer (some ⟨px, 0, none⟩), .int .i64 n, .int .i64 0, .slice none 0 0, .bool false], xdk px ds] (w5.alloc (.cells #[.int .i64 lep, .slice la m lc] 34))) := HZ5.out.box _ _
    clear HZ5 CL
    generalize w5.alloc (.cells #[.int .i64 lep, .slice la m lc] 34) = w6 at *
    generalize w5.heap.size = LB at *
    have y0 := HZ6.out.cell 0 rfl (j := 0) rfl
    have y1 := HZ6.out.cell 0 rfl (j := 1) rfl
    have v2 := HZ6.out.cell 2 rfl (j := 2) rfl
    have v3 := HZ6.out.cell 2 rfl (j := 3) rfl
    have f2 := HZ6.out.fr 2 rfl 2
    have f3 := HZ6.out.fr 2 rfl 3
    by_cases hle0 : le = 0
    · subst hle0
      rw [if_neg (show ¬ (0 : Int) = 5 by omega), if_pos (show (0 : Int) = 0 from rfl)] at hldl
      go_upto_region 15 with fail
      have HZ7 : Hid (Hz w O [box LB [.int .i64 lep, .slice la m lc], celT 2 (.slice la m lc) m (rowC enC les) lg, box yp [.pointer (some ⟨px, 0, none⟩), .int .i64 n, .int .i64 lep, .slice la m lc, .bool false], xdk px ds] ((w6.setCell ⟨yp, 2, none⟩ (.int .i64 lep)).setCell ⟨yp, 3, none⟩ (.slice la m lc))) := (HZ6.out.setBox 2 rfl 2 (.int .i64 lep) (by simp)).setBox 2 rfl 3 (.slice la m lc) (by simp)
      clear y0 y1 v2 v3 f2 f3 HZ6
      generalize (w6.setCell ⟨yp, 2, none⟩ (.int .i64 lep)).setCell ⟨yp, 3, none⟩ (.slice la m lc) = w7 at *
      cases wh with
      | true =>
        rw [if_pos (show true = true from rfl)] at hldl
        replace hop2 : o = (0, ds, ⟨n, ⟨lep, les⟩, false⟩) := by rw [hop2, hldl]; rfl
        subst hop2
        clear hldl
        go_wp2
        go_ret2
        have hm9 := HM.out
        subst hm9
        exact ⟨fun _ => ⟨yp, rfl, (rj_fold (M := []) (r := ⟨n, ⟨lep, les⟩, false⟩) (a := la) (c := lc) (g := lg) HZ7.out.less.swap.swap2)⟩, fun e => absurd rfl e⟩
      | false =>
        rw [if_neg (show ¬ false = true by simp)] at hldl
        obtain ⟨⟨q2, ds2⟩, hsq⟩ : ∃ x, stoR ds lgN (encL ⟨lep, les⟩) = x := ⟨_, rfl⟩
        rw [hsq] at hldl
        simp only at hldl
        have CST : Hid (∀ W, Hz w O [box LB [.int .i64 lep, .slice la m lc], celT 2 (.slice la m lc) m (rowC enC les) lg, box yp [.pointer (some ⟨px, 0, none⟩), .int .i64 n, .int .i64 lep, .slice la m lc, .bool false], xdk px ds] W → Calls Tryz.prog 62 #[.pointer (some ⟨px, 0, none⟩), .string lgN, .agg #[.int .i64 lep, .slice la m lc]] W fun e w' => e = .returned (.int .i64 q2) ∧ Hz w O [box LB [.int .i64 lep, .slice la m lc], celT 2 (.slice la m lc) m (rowC enC les) lg, box yp [.pointer (some ⟨px, 0, none⟩), .int .i64 n, .int .i64 lep, .slice la m lc, .bool false], xdk px ds2] w') := fun W h => by
          obtain ⟨O4, k4⟩ := h.get 1 rfl
          exact h.act 3 rfl (refStore_acts (lie_cel k4.1 HM.out) lep m lc HM.out HLO.out lgN lg_ok lg_small q2 hsq)
        have y0 := HZ7.out.cell 0 rfl (j := 0) rfl
        have y1 := HZ7.out.cell 0 rfl (j := 1) rfl
        clear hsq
        by_cases hq2 : q2 = 0
        · subst hq2
          rw [if_pos (show (0 : Int) = 0 from rfl)] at hldl
          replace hop2 : o = (0, ds2, ⟨n, ⟨lep, les⟩, false⟩) := by rw [hop2, hldl]; rfl
          subst hop2
          clear hldl
          go_wp2_with (go_at_call 62; refine (CST.out _ HZ7.out).mono ?_; rintro x w8 ⟨rfl, hz8⟩; have HZ8 : Hid (Hz w O [box LB [.int .i64 lep, .slice la m lc], celT 2 (.slice la m lc) m (rowC enC les) lg, box yp [.pointer (some ⟨px, 0, none⟩), .int .i64 n, .int .i64 lep, .slice la m lc, .bool false], xdk px ds2] w8) := hz8; clear hz8)
          go_ret2
          have hm9 := HM.out
          subst hm9
          exact ⟨fun _ => ⟨yp, rfl, (rj_fold (M := []) (r := ⟨n, ⟨lep, les⟩, false⟩) (a := la) (c := lc) (g := lg) HZ8.out.less.swap.swap2)⟩, fun e => absurd rfl e⟩
        · rw [if_neg hq2] at hldl
          replace hop2 : o = (q2, ds2, deadN) := by rw [hop2, hldl]; simp only; rw [if_neg hq2]
          subst hop2
          clear hldl
          have hb2 : (q2 == 0) = false := beq_eq_false_iff_ne.2 hq2
          have hb2' : (q2 != 0) = true := by simp [hq2]
          go_wp2_with (go_at_call 62; refine (CST.out _ HZ7.out).mono ?_; rintro x w8 ⟨rfl, hz8⟩; have HZ8 : Hid (Hz w O [box LB [.int .i64 lep, .slice la m lc], celT 2 (.slice la m lc) m (rowC enC les) lg, box yp [.pointer (some ⟨px, 0, none⟩), .int .i64 n, .int .i64 lep, .slice la m lc, .bool false], xdk px ds2] w8) := hz8; clear hz8)
          go_ret2
          exact ⟨fun e => absurd e hq2, fun _ => ⟨rfl, HZ8.out.less.less.less⟩⟩
    · have hbl0 : (le == 0) = false := beq_eq_false_iff_ne.2 hle0
      have hbl0' : (le != 0) = true := by simp [hle0]
      by_cases hle5 : le = 5
      · subst hle5
        obtain ⟨rfl, rfl⟩ := hl5 rfl
        rw [if_pos (show (5 : Int) = 5 from rfl)] at hldl
        replace hop2 : o = (0, ds, ⟨n, ⟨0, []⟩, false⟩) := by rw [hop2, hldl]; rfl
        subst hop2
        clear hldl
        have hm9 : 0 = m := HM.out
        subst hm9
        go_upto_region 15 with fail
        have HZ7 : Hid (Hz w O [box LB [.int .i64 0, .slice la 0 lc], celT 2 (.slice la 0 lc) 0 (rowC enC []) lg, box yp [.pointer (some ⟨px, 0, none⟩), .int .i64 n, .int .i64 0, .slice la 0 lc, .bool false], xdk px ds] ((w6.setCell ⟨yp, 2, none⟩ (.int .i64 0)).setCell ⟨yp, 3, none⟩ (.slice la 0 lc))) := (HZ6.out.setBox 2 rfl 2 (.int .i64 0) (by simp)).setBox 2 rfl 3 (.slice la 0 lc) (by simp)
        clear y0 y1 v2 v3 f2 f3 HZ6
        generalize (w6.setCell ⟨yp, 2, none⟩ (.int .i64 0)).setCell ⟨yp, 3, none⟩ (.slice la 0 lc) = w7 at *
        go_wp2
        go_ret2
        exact ⟨fun _ => ⟨yp, rfl, (rj_fold (M := []) (r := ⟨n, ⟨0, []⟩, false⟩) (a := la) (c := lc) (g := lg) HZ7.out.less.swap.swap2)⟩, fun e => absurd rfl e⟩
      · have hbl5 : (le == 5) = false := beq_eq_false_iff_ne.2 hle5
        have hbl5' : (le != 5) = true := by simp [hle5]
        rw [if_neg hle5, if_neg hle0] at hldl
        replace hop2 : o = (le, ds, deadN) := by rw [hop2, hldl]; simp only; rw [if_neg hle0]
        subst hop2
        clear hldl
        go_wp2
        go_ret2
        exact ⟨fun e => absurd e hle0, fun _ => ⟨rfl, HZ6.out.less.less.less⟩⟩
end Go.Proofs.YtfmhmokbbkliaaaGreat.Jrn

/- The contract of journal.takeAnswer, where there is a text. -/
namespace Go.Proofs.YtfmhmokbbkliaaaGreat.Jrn
open Go.RowKit Go.Proofs.YtfmhmokbbkliaaaGreat Go.Proofs.YtfmhmokbbkliaaaGreat.Wir Go.Proofs.YtfmhmokbbkliaaaGreat.Lgg Go.Proofs.YtfmhmokbbkliaaaGreat.Sep
set_option linter.unusedVariables false

/-- What is told, in a box. -/
structure Tld3 (W : World) (b : Nat) (ep : Int) (s : Value) (er : Int) : Prop where
  c0 : W.cell? ⟨b, 0, none⟩ = some (.int .i64 ep)
  c1 : W.cell? ⟨b, 1, none⟩ = some s
  c2 : W.cell? ⟨b, 2, none⟩ = some (.int .i64 er)
  fr : ∀ j, W.frozen? ⟨b, j, none⟩ = false
section
variable {W W' : World} {b : Nat} {ep er : Int} {s : Value}
theorem Tld3.below (h : Tld3 W b ep s er) (hb : Below W.heap.size W W') : Tld3 W' b ep s er := by
  have e := hb.block b (World.block_lt_of_cell? _ _ h.c0)
  exact ⟨(World.cell?_of_block (a := ⟨b, 0, none⟩) e).trans h.c0, (World.cell?_of_block (a := ⟨b, 1, none⟩) e).trans h.c1, (World.cell?_of_block (a := ⟨b, 2, none⟩) e).trans h.c2, fun j => (World.frozen?_of_block (a := ⟨b, j, none⟩) e).trans (h.fr j)⟩
theorem Tld3.new (W : World) (ep : Int) (s : Value) (er : Int) (T : TypeId) : Tld3 (W.alloc (.cells #[.int .i64 ep, s, .int .i64 er] T)) W.heap.size ep s er :=
  ⟨World.cell?_alloc_new W _ _ 0, World.cell?_alloc_new W _ _ 1, World.cell?_alloc_new W _ _ 2, fun j => World.frozen?_alloc_new W _ _ j⟩
theorem Tld3.sets (h : Tld3 W b ep s er) (ep' : Int) (s' : Value) (er' : Int) : Tld3 (((W.setCell ⟨b, 0, none⟩ (.int .i64 ep')).setCell ⟨b, 1, none⟩ s').setCell ⟨b, 2, none⟩ (.int .i64 er')) b ep' s' er' :=
  ⟨cell_set (by omega) (cell_set (by omega) (World.cell?_setCell_same _ _ _ h.c0)), cell_set (by omega) (World.cell?_setCell_same _ _ _ (cell_set (by omega) h.c1)), World.cell?_setCell_same _ _ _ (cell_set (by omega) (cell_set (by omega) h.c2)),
    fun j => by rw [World.frozen?_setCell, World.frozen?_setCell, World.frozen?_setCell]; exact h.fr j⟩
end
/-- The end: what is told is laid into the result. -/
theorem finT {w W : World} {RB n : Nat} {ep er : Int} {a : Option Addr} {c : Nat} {es : List En} {g : Option Nat} (hn : es.length = n) (hT : Tld3 W RB 0 (.slice none 0 0) 0) (hC : Cel (fun q => RB < q) W 2 (.slice a n c) n (rowC enC es) g) (hb : Below w.heap.size w W) (hR : w.heap.size = RB) :
    Tld3 (((W.setCell ⟨RB, 0, none⟩ (.int .i64 ep)).setCell ⟨RB, 1, none⟩ (.slice a n c)).setCell ⟨RB, 2, none⟩ (.int .i64 er)) RB ep (.slice a n c) er ∧
    Cel (fun q => w.heap.size ≤ q) (((W.setCell ⟨RB, 0, none⟩ (.int .i64 ep)).setCell ⟨RB, 1, none⟩ (.slice a n c)).setCell ⟨RB, 2, none⟩ (.int .i64 er)) 2 (.slice a es.length c) es.length (rowC enC es) g ∧
    Below w.heap.size w (((W.setCell ⟨RB, 0, none⟩ (.int .i64 ep)).setCell ⟨RB, 1, none⟩ (.slice a n c)).setCell ⟨RB, 2, none⟩ (.int .i64 er)) := by
  subst hn
  have hs := stay_sets W RB (.int .i64 ep) (.slice a es.length c) (.int .i64 er)
  refine ⟨hT.sets ep _ er, hC.stay hs.size (fun q hq => hs.block q (by rw [hq] at hC; exact hC.lt.1) (fun e => by rw [hq] at hC; have h9 : RB < q := hC.lt.2; omega)) (fun q hq => by have h9 : RB < q := hq; omega), hb.trans (hs.below hb.size (fun x hx => by omega))⟩

set_option maxRecDepth 100000 in
set_option maxHeartbeats 2000000 in
theorem ans_any {w : World} {a : Option Addr} {b off : Nat} {t : ByteArray} {rest : List ByteArray} (h : Strs w a b off (t :: rest)) (m q : Nat) (hm : rest.length = m) (hq : m ≤ q) (hm3 : m ≤ 1000) (hx : ∀ x ∈ rest, x.size ≤ 4000) (r : Option (Lg × Int)) (HQ : ansP (t :: rest) = r) :
    Calls Tryz.prog 51 #[.slice a (1 + m) (1 + q)] w fun x w' => AnsO w.heap.size r x w' ∧ Below w.heap.size w w' := by
  obtain rfl := h.addr (by simp)
  have c0 : w.cell? ⟨b, off, none⟩ = some (.string t) := h.cell 0 (by simp)
  have hts := h.small t (by simp)
  have hi0 : (0 : Int) < 1 + (m : Int) := by omega
  have hd1 : decide ((1 : Int) ≤ 1 + (m : Int)) = true := decide_eq_true (by omega)
  have HY : Hid (∀ W, Calls Tryz.prog 94 #[.bool true] W fun e w' => e = .returned (.tuple #[]) ∧ w' = W) := need_yes
  have HF : Hid (∀ W, Calls Tryz.prog 94 #[.bool false] W fun e w' => e = leftV ∧ w' = W) := need_no
  have hst := fun (w : World) (a : Addr) (x : ByteArray) (m : Mode) => run_store (P := Tryz.prog) w a (.string x) m rfl
  have hst2 : ∀ (w : World) (a : Addr) (x : Option Addr) (n c : Nat) (m : Mode), (store a (.slice x n c) m).run Tryz.prog w = stored Tryz.prog w a (.slice x n c) m := fun w a x n c m => run_store (P := Tryz.prog) w a _ m rfl
  have A1 := Tld3.new w 0 (.slice none 0 0) 0 81
  have B1 : Hid (Below w.heap.size w (w.alloc (.cells #[.int .i64 0, .slice none 0 0, .int .i64 0] 81))) := bel_al _ _
  have hz1 : (w.alloc (.cells #[.int .i64 0, .slice none 0 0, .int .i64 0] 81)).heap.size = w.heap.size + 1 := by simp
  have d0 := bel_cell B1.out c0
  obtain ⟨RB, hRB⟩ : ∃ RB, w.heap.size = RB := ⟨_, rfl⟩
  have HRB : Hid (w.heap.size = RB) := hRB
  simp only [hRB] at A1
  go_enter Tryz.func51, Tryz.ntmps51
  go_upto_region 1 with fail
  try simp only [hRB]
  generalize w.alloc (.cells #[.int .i64 0, .slice none 0 0, .int .i64 0] 81) = W1 at *
  have HA1 : Hid (Tld3 W1 RB 0 (.slice none 0 0) 0) := A1
  have HZ1 : Hid (W1.heap.size = w.heap.size + 1) := hz1
  have HSS : Hid (Strs w (some ⟨b, off, none⟩) b off (t :: rest)) := h
  clear A1 hz1 c0 h hRB
  cases hnum : numP t with
  | none =>
    have hr : r = none := by rw [← HQ]; simp only [ansP, hnum]
    subst hr
    have CN : Hid (∀ W, Calls Tryz.prog 95 #[.string t] W fun x w' => x = leftV ∧ Below W.heap.size W w') := fun W => takeNumber_no t hts hnum W
    clear HQ hnum hts
    go_wp2_with (first
      | (go_at_call 94; refine (HY.out _).mono ?_; rintro x wy ⟨rfl, hwy⟩; have hwy2 := hwy.symm; clear hwy; subst hwy2)
      | (go_at_call 95; refine (CN.out _).mono ?_; rintro x w2 ⟨rfl, b2⟩))
    exact ⟨rfl, rfl, bel_tr B1.out b2⟩
  | some e =>
    have CN : Hid (∀ W, Calls Tryz.prog 95 #[.string t] W fun x w' => x = .returned (.int .i64 e) ∧ Below W.heap.size W w') := fun W => takeNumber_yes t hts e hnum W
    have hq1 : r = if 0 ≤ e ∧ e ≤ 14 then (if rest.length = 0 then some (⟨0, []⟩, e) else if e = 0 then logP rest else none) else none := by rw [← HQ]; simp only [ansP, hnum]
    have HR : Hid (r = if 0 ≤ e ∧ e ≤ 14 then (if rest.length = 0 then some (⟨0, []⟩, e) else if e = 0 then logP rest else none) else none) := hq1
    clear HQ hnum hts hq1
    by_cases he0 : 0 ≤ e
    case neg =>
      have hd0 : decide (0 ≤ e) = false := decide_eq_false he0
      have hr : r = none := by rw [HR.out, if_neg (fun k => he0 k.1)]
      subst hr
      clear HR
      go_wp2_with (first
        | (go_at_call 94; refine (HY.out _).mono ?_; rintro x wy ⟨rfl, hwy⟩; have hwy2 := hwy.symm; clear hwy; subst hwy2)
        | (go_at_call 94; refine (HF.out _).mono ?_; rintro x wy ⟨rfl, hwy⟩; have hwy2 := hwy.symm; clear hwy; subst hwy2)
        | (go_at_call 95; refine (CN.out _).mono ?_; rintro x w2 ⟨rfl, b2⟩; have B2 : Hid (Below w.heap.size w w2) := bel_tr B1.out b2; clear b2))
      exact ⟨rfl, rfl, B2.out⟩
    case pos =>
    have hd0 : decide (0 ≤ e) = true := decide_eq_true he0
    by_cases he1 : e ≤ 14
    case neg =>
      have hd9 : decide (e ≤ 14) = false := decide_eq_false he1
      have hr : r = none := by rw [HR.out, if_neg (fun k => he1 k.2)]
      subst hr
      clear HR
      go_wp2_with (first
        | (go_at_call 94; refine (HY.out _).mono ?_; rintro x wy ⟨rfl, hwy⟩; have hwy2 := hwy.symm; clear hwy; subst hwy2)
        | (go_at_call 94; refine (HF.out _).mono ?_; rintro x wy ⟨rfl, hwy⟩; have hwy2 := hwy.symm; clear hwy; subst hwy2)
        | (go_at_call 95; refine (CN.out _).mono ?_; rintro x w2 ⟨rfl, b2⟩; have B2 : Hid (Below w.heap.size w w2) := bel_tr B1.out b2; clear b2))
      exact ⟨rfl, rfl, B2.out⟩
    case pos =>
    have hd9 : decide (e ≤ 14) = true := decide_eq_true he1
    have HR2 : Hid (r = if m = 0 then some (⟨0, []⟩, e) else if e = 0 then logP rest else none) := by show _ = _; rw [HR.out, if_pos ⟨he0, he1⟩, hm]
    clear HR
    go_upto_region 4 with (first
      | (go_at_call 94; refine (HY.out _).mono ?_; rintro x wy ⟨rfl, hwy⟩; have hwy2 := hwy.symm; clear hwy; subst hwy2)
      | (go_at_call 95; refine (CN.out _).mono ?_; rintro x w2 ⟨rfl, b2⟩; have B2 : Hid (Below W1.heap.size W1 w2) := b2; clear b2))
    have HA2 : Hid (Tld3 w2 RB 0 (.slice none 0 0) 0) := HA1.out.below B2.out
    have HBW : Hid (Below w.heap.size w w2) := bel_tr B1.out B2.out
    have HLT : Hid (RB < w2.heap.size) := World.block_lt_of_cell? _ _ HA2.out.c0
    clear d0 HA1 B1 B2
    go_cut [4] (fun v wx => ∃ a2 b2 off2, v = .slice a2 m q ∧ Strs w2 a2 b2 off2 rest ∧ wx = w2)
    case first =>
      have hS2 := strs_drop1 (HSS.out.below HBW.out)
      by_cases hq0 : q = 0
      · subst hq0
        obtain rfl : m = 0 := by omega
        obtain rfl : rest = [] := List.length_eq_zero_iff.1 hm
        clear hS2
        go_wp2
        go_meet
        case rel => exact ⟨_, 0, 0, rfl, ⟨fun h => (by simp at h), fun j h => (by simp at h), fun s h => (by simp at h), (by show 0 ≤ maxLen; omega)⟩, rfl⟩
      · have hS9 : Hid (Strs w2 (some ⟨b, off + 1, none⟩) b (off + 1) rest) := hS2
        clear hS2
        go_wp2
        go_meet
        case rel => exact ⟨_, _, _, rfl, hS9.out, rfl⟩
    case rest =>
    obtain ⟨a2, b2, off2, rfl, hS, hw⟩ := hcut
    obtain rfl : w2 = wc := hw.symm
    have HS2 : Hid (Strs w2 a2 b2 off2 rest) := hS
    clear hS HSS hw
    by_cases hm0 : m = 0
    · subst hm0
      have hr : r = some (⟨0, []⟩, e) := by rw [HR2.out]; rfl
      subst hr
      have g0 := HA2.out.c0
      have g1 := HA2.out.c1
      have g2 := HA2.out.c2
      have f0 := HA2.out.fr 0
      have f1 := HA2.out.fr 1
      have f2 := HA2.out.fr 2
      go_wp2_with (go_at_call 94; refine (HY.out _).mono ?_; rintro x wy ⟨rfl, hwy⟩; have hwy2 := hwy.symm; clear hwy; subst hwy2)
      obtain ⟨F1, F2, F3⟩ := finT (ep := 0) (er := e) (es := []) (n := 0) (a := none) (c := 0) rfl HA2.out (.nil rfl rfl rfl) HBW.out HRB.out
      refine bodyPost_ret (v := .agg #[.int .i64 0, .slice none 0 0, .int .i64 e]) ?_ rfl ⟨⟨_, _, _, rfl, F2⟩, F3⟩
      simp only [results, Tryz.results51]
      have F10 := F1.c0
      have F11 := F1.c1
      have F12 := F1.c2
      simp [go_sem, F10, F11, F12]
    · have hm0b : ((m : Int) == 0) = false := beq_eq_false_iff_ne.2 (by omega)
      have hm0i : ¬ (m : Int) = 0 := by omega
      by_cases hez : e = 0
      case neg =>
        have hr : r = none := by rw [HR2.out, if_neg hm0, if_neg hez]
        have hezb : (e == 0) = false := beq_eq_false_iff_ne.2 hez
        subst hr
        clear HR2
        go_wp2_with (go_at_call 94; refine (HF.out _).mono ?_; rintro x wy ⟨rfl, hwy⟩; have hwy2 := hwy.symm; clear hwy; subst hwy2)
        exact ⟨rfl, rfl, HBW.out⟩
      case pos =>
      have HR3 : Hid (r = logP rest) := by show _ = _; rw [HR2.out, if_neg hm0, if_pos hez]
      subst hez
      clear HR2
      have CJ : Hid (Calls Tryz.prog 97 #[.slice a2 m q, .string ⟨#[]⟩] w2 fun x w' => x = .returned (.string (catL rest)) ∧ Below w2.heap.size w2 w') := sjoinC_any a2 b2 off2 q m rest w2 HS2.out hm hq hm3 hx
      have hcs := cat_size rest hx
      cases hp : parseL (catL rest) with
      | none =>
        have hr : r = none := by rw [HR3.out]; unfold logP; rw [hp]
        subst hr
        have CT : Hid (∀ W, Calls Tryz.prog 96 #[.string (catL rest)] W fun x w' => x = leftV ∧ Below W.heap.size W w') := fun W => takeLog_no _ (by omega) (.inr hp) W
        clear HR3 hp hcs
        generalize catL rest = X at *
        go_wp2_with (first
          | (go_at_call 94; refine (HY.out _).mono ?_; rintro x wy ⟨rfl, hwy⟩; have hwy2 := hwy.symm; clear hwy; subst hwy2)
          | (go_at_call 97; refine CJ.out.mono ?_; rintro x w3 ⟨rfl, b3⟩; have B3 : Hid (Below w.heap.size w w3) := bel_tr HBW.out b3; clear b3)
          | (go_at_call 96; refine (CT.out _).mono ?_; rintro x w4 ⟨rfl, b4⟩; have B4 : Hid (Below w.heap.size w w4) := bel_tr B3.out b4; clear b4))
        exact ⟨rfl, rfl, B4.out⟩
      | some lr =>
        obtain ⟨l, R⟩ := lr
        have hlR := parse_right hp
        by_cases h4 : (catL rest).size ≤ 400000
        case neg =>
          have hr : r = none := by
            rw [HR3.out]; unfold logP; rw [hp]; simp only
            rw [if_neg (fun e => ?_)]
            have h9 := pieces_cat (encL l).size _ (Nat.le_refl _)
            rw [e] at h9
            have := enc_bound hlR
            rw [h9] at h4
            omega
          subst hr
          have CT : Hid (∀ W, Calls Tryz.prog 96 #[.string (catL rest)] W fun x w' => x = leftV ∧ Below W.heap.size W w') := fun W => takeLog_no _ (by omega) (.inl (by omega)) W
          clear HR3 hp hcs h4
          generalize catL rest = X at *
          go_wp2_with (first
            | (go_at_call 94; refine (HY.out _).mono ?_; rintro x wy ⟨rfl, hwy⟩; have hwy2 := hwy.symm; clear hwy; subst hwy2)
            | (go_at_call 97; refine CJ.out.mono ?_; rintro x w3 ⟨rfl, b3⟩; have B3 : Hid (Below w.heap.size w w3) := bel_tr HBW.out b3; clear b3)
            | (go_at_call 96; refine (CT.out _).mono ?_; rintro x w4 ⟨rfl, b4⟩; have B4 : Hid (Below w.heap.size w w4) := bel_tr B3.out b4; clear b4))
          exact ⟨rfl, rfl, B4.out⟩
        case pos =>
        have CT : Hid (∀ W, Calls Tryz.prog 96 #[.string (catL rest)] W fun x w' => LogC W.heap.size l x w' ∧ Below W.heap.size W w') := fun W => takeLog_yes _ h4 l R hp W
        obtain ⟨v, hv⟩ : ∃ v, decide (piecesL (encL l) = rest) = v := ⟨_, rfl⟩
        have HR4 : Hid (r = if v = true then some (l, 0) else none) := by
          show _ = _
          rw [HR3.out]; unfold logP; rw [hp]; simp only
          rw [← hv]
          by_cases hpe : piecesL (encL l) = rest
          · rw [if_pos hpe, if_pos (decide_eq_true hpe)]
          · rw [if_neg hpe, if_neg (by simp [hpe])]
        have hsz := pieces_size (encL l).size _ (Nat.le_refl _)
        have hle := enc_bound hlR
        obtain ⟨ep, es⟩ := l
        obtain ⟨n, hn⟩ : ∃ n, es.length = n := ⟨_, rfl⟩
        have HN : Hid (es.length = n) := hn
        have HLR : Hid (RtL ⟨ep, es⟩) := hlR
        have HV : Hid (decide (piecesL (encL ⟨ep, es⟩) = rest) = v) := hv
        have HSZ : Hid (∀ p ∈ piecesL (encL ⟨ep, es⟩), p.size ≤ maxLen) := fun p hp => by have := hsz.1 p hp; unfold maxLen; omega
        have HM : Hid (rest.length = m) := hm
        clear HR3 hp hcs h4 hsz hle hlR hv hn hm hx
        generalize catL rest = X at *
        go_upto_region 9 with (first
          | (go_at_call 94; refine (HY.out _).mono ?_; rintro x wy ⟨rfl, hwy⟩; have hwy2 := hwy.symm; clear hwy; subst hwy2)
          | (go_at_call 97; refine CJ.out.mono ?_; rintro x w3 ⟨rfl, b3⟩; have B3 : Hid (Below w2.heap.size w2 w3) := b3; clear b3)
          | (go_at_call 96; refine (CT.out _).mono ?_; rintro x w4 ⟨⟨ea, ec, eg, hxe, hC⟩, b4⟩; simp only at hxe hC; rw [HN.out] at hxe hC; subst hxe; have B4 : Hid (Below w2.heap.size w2 w4) := bel_tr B3.out b4; have HC4 : Hid (Cel (fun z => w3.heap.size ≤ z) w4 2 (.slice ea n ec) n (rowC enC es) eg) := hC; clear b4 hC))
        have hbx := bel_al w4 (.cells #[.int .i64 ep, .slice ea n ec] 34)
        obtain ⟨y0, y1, _, _⟩ := cells2 w4 (.int .i64 ep) (.slice ea n ec) 34
        have B5 : Hid (Below w2.heap.size w2 (w4.alloc (.cells #[.int .i64 ep, .slice ea n ec] 34))) := bel_tr B4.out hbx
        have HC5 : Hid (Cel (fun z => RB < z) (w4.alloc (.cells #[.int .i64 ep, .slice ea n ec] 34)) 2 (.slice ea n ec) n (rowC enC es) eg) := (HC4.out.below hbx).stay (Nat.le_refl _) (fun _ _ => rfl) (fun z hz => by have h9 : w3.heap.size ≤ z := hz; have h8 := B3.out.size; have := HLT.out; omega)
        clear hbx HC4
        generalize w4.alloc (.cells #[.int .i64 ep, .slice ea n ec] 34) = W5 at *
        generalize w4.heap.size = LB at *
        have CP : Hid (∀ W, Below W5.heap.size W5 W → Calls Tryz.prog 69 #[.agg #[.int .i64 ep, .slice ea n ec]] W fun e w' => StrR W.heap.size (piecesL (encL ⟨ep, es⟩)) e w' ∧ Below W.heap.size W w') := fun W hb => by
          have h9 : Cel (fun z => RB < z) W5 2 (.slice ea es.length ec) es.length (rowC enC es) eg := by rw [HN.out]; exact HC5.out
          exact pieces_val ((Lie.of_cel wideN h9).below hb) ep n ec HN.out HLR.out _ rfl
        cases v with
        | false =>
          have hr : r = none := by rw [HR4.out]; simp
          subst hr
          go_wp2_with (first
            | (go_at_call 94; refine (HF.out _).mono ?_; rintro x wy ⟨rfl, hwy⟩; have hwy2 := hwy.symm; clear hwy; subst hwy2)
            | (go_at_call 69; refine (CP.out _ (Below.refl _ _)).mono ?_; rintro x w6 ⟨⟨pa, pc, pg, rfl, hPC⟩, b6⟩; have B6 : Hid (Below w2.heap.size w2 w6) := bel_tr B5.out b6; have CE : Hid (Calls Tryz.prog 98 #[.slice pa (piecesL (encL ⟨ep, es⟩)).length pc, .slice a2 m q] w6 fun e w' => e = .returned (.bool false) ∧ Below w6.heap.size w6 w') := (by obtain ⟨_, pb, hPS⟩ := strs_of_cel hPC HSZ.out; exact equalS_val pa a2 pb 0 pc b2 off2 q _ m _ rest false w6 hPS (HS2.out.below B6.out) rfl HM.out HV.out); clear b6 hPC)
            | (go_at_call 98; refine CE.out.mono ?_; rintro x w7 ⟨rfl, b7⟩; have B7 : Hid (Below w2.heap.size w2 w7) := bel_tr B6.out b7; clear b7))
          exact ⟨rfl, rfl, bel_tr HBW.out B7.out⟩
        | true =>
          have hr : r = some (⟨ep, es⟩, 0) := by rw [HR4.out]; simp
          subst hr
          go_upto_region 10 with (first
            | (go_at_call 94; refine (HY.out _).mono ?_; rintro x wy ⟨rfl, hwy⟩; have hwy2 := hwy.symm; clear hwy; subst hwy2)
            | (go_at_call 69; refine (CP.out _ (Below.refl _ _)).mono ?_; rintro x w6 ⟨⟨pa, pc, pg, rfl, hPC⟩, b6⟩; have B6 : Hid (Below W5.heap.size W5 w6) := b6; have CE : Hid (Calls Tryz.prog 98 #[.slice pa (piecesL (encL ⟨ep, es⟩)).length pc, .slice a2 m q] w6 fun e w' => e = .returned (.bool true) ∧ Below w6.heap.size w6 w') := (by obtain ⟨_, pb, hPS⟩ := strs_of_cel hPC HSZ.out; exact equalS_val pa a2 pb 0 pc b2 off2 q _ m _ rest true w6 hPS (HS2.out.below (bel_tr B5.out B6.out)) rfl HM.out HV.out); clear b6 hPC)
            | (go_at_call 98; refine CE.out.mono ?_; rintro x w7 ⟨rfl, b7⟩; have B7 : Hid (Below W5.heap.size W5 w7) := bel_tr B6.out b7; clear b7))
          have x0 := bel_cell B7.out y0
          have x1 := bel_cell B7.out y1
          have HA7 : Hid (Tld3 w7 RB 0 (.slice none 0 0) 0) := (HA2.out.below B5.out).below B7.out
          have HC7 : Hid (Cel (fun z => RB < z) w7 2 (.slice ea n ec) n (rowC enC es) eg) := HC5.out.below B7.out
          have HB7 : Hid (Below w.heap.size w w7) := bel_tr HBW.out (bel_tr B5.out B7.out)
          have g0 := HA7.out.c0
          have g1 := HA7.out.c1
          have g2 := HA7.out.c2
          have f0 := HA7.out.fr 0
          have f1 := HA7.out.fr 1
          have f2 := HA7.out.fr 2
          go_wp2
          obtain ⟨F1, F2, F3⟩ := finT (ep := ep) (er := 0) HN.out HA7.out HC7.out HB7.out HRB.out
          refine bodyPost_ret (v := .agg #[.int .i64 ep, .slice ea n ec, .int .i64 0]) ?_ rfl ⟨⟨ea, ec, eg, by simp only [HN.out], F2⟩, F3⟩
          simp only [results, Tryz.results51]
          have F10 := F1.c0
          have F11 := F1.c1
          have F12 := F1.c2
          simp [go_sem, F10, F11, F12]

end Go.Proofs.YtfmhmokbbkliaaaGreat.Jrn

/- The contract of journal.taken, at answers. -/
namespace Go.Proofs.YtfmhmokbbkliaaaGreat.Jrn
open Go.RowKit Go.Proofs.YtfmhmokbbkliaaaGreat Go.Proofs.YtfmhmokbbkliaaaGreat.Wir Go.Proofs.YtfmhmokbbkliaaaGreat.Lgg
set_option linter.unusedVariables false

/-- An answer that was taken, in new memory. -/
structure TkT (base : Nat) (ep er : Int) (es : List En) (e : Ending) (w' : World) : Prop where
  ex : ∃ a c g, e = .returned (.tuple #[.agg #[.int .i64 ep, .slice a es.length c, .int .i64 er], .int .i64 0]) ∧ Cel (fun q => base ≤ q) w' 2 (.slice a es.length c) es.length (rowC enC es) g

theorem takeAnswer_any {w : World} {a : Option Addr} {b off : Nat} {ts : List ByteArray} (h : Strs w a b off ts) (n c : Nat) (hn : ts.length = n) (hc : n ≤ c) (hl : n ≤ 1000) (hx : ∀ x ∈ ts, x.size ≤ 4000) :
    Calls Tryz.prog 51 #[.slice a n c] w fun x w' => AnsO w.heap.size (ansP ts) x w' ∧ Below w.heap.size w w' := by
  match ts, hn with
  | [], hn =>
    obtain rfl : n = 0 := by simpa using hn.symm
    exact ans_none a c
  | t :: rest, hn =>
    obtain ⟨q, rfl⟩ : ∃ q, c = 1 + q := ⟨c - 1, by simp at hn; omega⟩
    obtain ⟨m, rfl⟩ : ∃ m, n = 1 + m := ⟨n - 1, by simp at hn; omega⟩
    exact ans_any h m q (by simp at hn; omega) (by omega) (by omega) (fun x hx2 => hx x (by simp [hx2])) _ rfl
set_option maxRecDepth 100000 in
theorem catchT_panic {R : Nat} {w : World} {u : Value} (h : w.cell? ⟨R, 0, none⟩ = some u) (f : w.frozen? ⟨R, 0, none⟩ = false) (older : List PanicEntry) :
    CallsD Tryz.prog 92 #[.pointer (some ⟨R, 0, none⟩)] (.panicking ({ v := .iface 26 (.int .i64 2), recovered := false } :: older)) w fun e u' w' =>
      e = .returned (.tuple #[]) ∧ u' = .panicking ({ v := .iface 26 (.int .i64 2), recovered := true } :: older) ∧ w' = w.setCell ⟨R, 0, none⟩ (.int .i64 2) := by
  refine callsD_of_wpS Tryz.func92 rfl fun c₀ cs hu => ?_
  apply wpS_seq
  apply wpS_region
  simp [wpOpsS, go_sem, recoverD, hu, Tryz.ntmps92, Exit.thenS]
  refine wpS_of_wp ?_
  go_wp2
  exact ⟨rfl, _, rfl, .tuple #[], by simp [results, Tryz.results92], rfl, rfl, rfl⟩
set_option maxRecDepth 100000 in
theorem catchT_idle {R : Nat} {w : World} :
    CallsD Tryz.prog 92 #[.pointer (some ⟨R, 0, none⟩)] .returning w fun e u' w' => e = .returned (.tuple #[]) ∧ u' = .returning ∧ w' = w := by
  refine callsD_of_wpS Tryz.func92 rfl fun c₀ cs hu => ?_
  apply wpS_seq
  apply wpS_region
  simp [wpOpsS, go_sem, recoverD, hu, Tryz.ntmps92, Exit.thenS]
  refine wpS_of_wp ?_
  go_wp2
  cases c₀
  simp_all [bodyPostS, results, Tryz.results92]

/-- How 'taken' ends. -/
structure BoxT (W : World) (b : Nat) (er : Int) (ep : Int) (s : Value) (ee : Int) : Prop where
  c0 : W.cell? ⟨b, 0, none⟩ = some (.int .i64 ep)
  c1 : W.cell? ⟨b, 1, none⟩ = some s
  c2 : W.cell? ⟨b, 2, none⟩ = some (.int .i64 ee)
  ce : W.cell? ⟨b + 1, 0, none⟩ = some (.int .i64 er)
  fr : ∀ j, W.frozen? ⟨b, j, none⟩ = false
  fe : W.frozen? ⟨b + 1, 0, none⟩ = false
theorem BoxT.stay {O : Nat → Prop} {W W' : World} {b : Nat} {er : Int} {ep : Int} {s : Value} {ee : Int} (h : BoxT W b er ep s ee) (hs : Stay O W W') (hO : ¬ O b) (hO1 : ¬ O (b + 1)) : BoxT W' b er ep s ee := by
  have e := hs.block b (World.block_lt_of_cell? _ _ h.c0) hO
  have e1 := hs.block (b + 1) (World.block_lt_of_cell? _ _ h.ce) hO1
  exact ⟨(World.cell?_of_block (a := ⟨b, 0, none⟩) e).trans h.c0, (World.cell?_of_block (a := ⟨b, 1, none⟩) e).trans h.c1, (World.cell?_of_block (a := ⟨b, 2, none⟩) e).trans h.c2, (World.cell?_of_block (a := ⟨b + 1, 0, none⟩) e1).trans h.ce, fun j => (World.frozen?_of_block (a := ⟨b, j, none⟩) e).trans (h.fr j), (World.frozen?_of_block (a := ⟨b + 1, 0, none⟩) e1).trans h.fe⟩
theorem BoxT.below {W W' : World} {b : Nat} {er : Int} {ep : Int} {s : Value} {ee : Int} (h : BoxT W b er ep s ee) (hb : Below W.heap.size W W') : BoxT W' b er ep s ee := h.stay (O := fun _ => False) (Stay.of_below hb) id id
theorem boxT_new (w : World) : BoxT ((w.alloc (.cells #[.int .i64 0, .slice none 0 0, .int .i64 0] 81)).alloc (.cells #[.int .i64 0] 26)) w.heap.size 0 0 (.slice none 0 0) 0 := by
  have hz : (w.alloc (.cells #[.int .i64 0, .slice none 0 0, .int .i64 0] 81)).heap.size = w.heap.size + 1 := by simp
  have b1 := bel_al (w.alloc (.cells #[.int .i64 0, .slice none 0 0, .int .i64 0] 81)) (.cells #[.int .i64 0] 26)
  have e1 := World.cell?_alloc_new (w.alloc (.cells #[.int .i64 0, .slice none 0 0, .int .i64 0] 81)) #[.int .i64 0] 26 0
  have e2 := World.frozen?_alloc_new (w.alloc (.cells #[.int .i64 0, .slice none 0 0, .int .i64 0] 81)) #[.int .i64 0] 26 0
  rw [hz] at e1 e2
  exact ⟨bel_cell b1 (World.cell?_alloc_new w _ _ 0), bel_cell b1 (World.cell?_alloc_new w _ _ 1), bel_cell b1 (World.cell?_alloc_new w _ _ 2), e1, fun j => (World.frozen?_of_block (a := ⟨w.heap.size, j, none⟩) (b1.block w.heap.size (by omega))).trans (World.frozen?_alloc_new w _ _ j), e2⟩
theorem BoxT.putE {W : World} {b : Nat} {er : Int} {ep : Int} {s : Value} {ee : Int} (h : BoxT W b er ep s ee) (er' : Int) : BoxT (W.setCell ⟨b + 1, 0, none⟩ (.int .i64 er')) b er' ep s ee :=
  ⟨other (by omega) h.c0, other (by omega) h.c1, other (by omega) h.c2, World.cell?_setCell_same _ _ _ h.ce, fun j => by rw [World.frozen?_setCell]; exact h.fr j, by rw [World.frozen?_setCell]; exact h.fe⟩

set_option maxRecDepth 100000 in
set_option maxHeartbeats 2000000 in
/-- It panics, or Split refuses. -/
theorem takenT_no (s : ByteArray) (hs : s.size ≤ maxLen) (w : World) (hT : ∀ ts, splitL s = some ts → ∀ (W : World) (a : Option Addr) (b c n : Nat), Strs W a b 0 ts → ts.length = n → n ≤ c → Calls Tryz.prog 51 #[.slice a n c] W fun e w' => e = leftV ∧ Below W.heap.size W w') :
    Calls Tryz.prog 50 #[.string s, .func (.func 51) #[] #[]] w fun e w' => e = .returned (.tuple #[.agg #[.int .i64 0, .slice none 0 0, .int .i64 0], .int .i64 2]) ∧ Below w.heap.size w w' := by
  have hmf : ∀ (fn : Fn) (first cap : Array Value) (w : World), (Instr.makeFunc fn first cap).run Tryz.prog w = .ok (.func fn first cap) w := fun _ _ _ _ => rfl
  have HS : Hid (∀ W, Calls Tryz.prog 93 #[.string s] W fun e w' => SplitEnds W.heap.size (.int .i64 0) (.int .i64 2) (splitL s) e w' ∧ Below W.heap.size W w') := fun W => split_any s W hs
  have HY : Hid (∀ W, Calls Tryz.prog 94 #[.bool true] W fun e w' => e = .returned (.tuple #[]) ∧ w' = W) := need_yes
  have HF : Hid (∀ W, Calls Tryz.prog 94 #[.bool false] W fun e w' => e = leftV ∧ w' = W) := need_no
  have HT : Hid (∀ ts, splitL s = some ts → ∀ (W : World) (a : Option Addr) (b c n : Nat), Strs W a b 0 ts → ts.length = n → n ≤ c → Calls Tryz.prog 51 #[.slice a n c] W fun e w' => e = leftV ∧ Below W.heap.size W w') := hT
  clear hT hs
  have hB0 := boxT_new w
  have BB0 : Hid (Below w.heap.size w ((w.alloc (.cells #[.int .i64 0, .slice none 0 0, .int .i64 0] 81)).alloc (.cells #[.int .i64 0] 26))) := bel_tr (bel_al _ _) (bel_al _ _)
  obtain ⟨RB, hRB⟩ : ∃ RB, w.heap.size = RB := ⟨_, rfl⟩
  have HRB : Hid (w.heap.size = RB) := hRB
  rw [hRB] at hB0
  have HB0 : Hid (BoxT ((w.alloc (.cells #[.int .i64 0, .slice none 0 0, .int .i64 0] 81)).alloc (.cells #[.int .i64 0] 26)) RB 0 0 (.slice none 0 0) 0) := hB0
  clear hB0
  go_enter_defers Tryz.func50, Tryz.ntmps50
  go_wp2_with fail
  clear hRB
  generalize (w.alloc (.cells #[.int .i64 0, .slice none 0 0, .int .i64 0] 81)).alloc (.cells #[.int .i64 0] 26) = W2 at *
  refine (HS.out _).mono ?_
  rintro x w3 ⟨hx, b3⟩
  have BX3 : Hid (BoxT w3 RB 0 0 (.slice none 0 0) 0) := HB0.out.below b3
  have B3 : Hid (Below w.heap.size w w3) := bel_tr BB0.out b3
  have e0 := BX3.out.ce
  have fe0 := BX3.out.fe
  clear b3
  cases hsp : splitL s with
  | none =>
    rw [hsp] at hx
    replace hx : x = .returned (.tuple #[.slice none 0 0, .int .i64 2]) := hx
    subst hx
    go_wp2_with (go_at_call 94; refine (HF.out _).mono ?_; rintro x wy ⟨rfl, hwy⟩; have hwy2 := hwy.symm; clear hwy; subst hwy2)
    have BX4 : Hid (BoxT (w3.setCell ⟨RB + 1, 0, none⟩ (.int .i64 2)) RB 2 0 (.slice none 0 0) 0) := BX3.out.putE 2
    refine leaves_cons (f := 92) (args := #[.pointer (some ⟨RB + 1, 0, none⟩)]) (by simp) (by simp [go_sem]) ?_
    refine (catchT_panic BX4.out.ce BX4.out.fe []).mono ?_
    rintro e u' w' ⟨rfl, rfl, rfl⟩
    have BX5 := BX4.out.putE 2
    have k0 := BX5.c0
    have k1 := BX5.c1
    have k2 := BX5.c2
    have k3 := BX5.ce
    refine ⟨.tuple #[.agg #[.int .i64 0, .slice none 0 0, .int .i64 0], .int .i64 2], ?_, rfl, Below.setCell (Below.setCell B3.out (by have := HRB.out; show _ ≤ RB + 1; omega) _) (by have := HRB.out; show _ ≤ RB + 1; omega) _⟩
    simp only [results, Tryz.results50]
    simp [go_sem, k0, k1, k2, k3]
  | some ts =>
    rw [hsp] at hx
    obtain ⟨v, rfl, ho, hl, hsm⟩ := hx
    obtain ⟨a, c, b, rfl, hn, hc, hS, hbb⟩ := own_strs ho hsm hl
    obtain ⟨n, hnn⟩ : ∃ n, ts.length = n := ⟨_, rfl⟩
    rw [hnn] at hn hc hbb ⊢
    have BX4 : Hid (BoxT (w3.setCell ⟨RB + 1, 0, none⟩ (.int .i64 0)) RB 0 0 (.slice none 0 0) 0) := BX3.out.putE 0
    have B4 : Hid (Below w.heap.size w (w3.setCell ⟨RB + 1, 0, none⟩ (.int .i64 0))) := Below.setCell B3.out (by have := HRB.out; show _ ≤ RB + 1; omega) _
    have hRW : RB + 1 < W2.heap.size := World.block_lt_of_cell? _ _ HB0.out.ce
    have CT : Hid (Calls Tryz.prog 51 #[.slice a n c] (w3.setCell ⟨RB + 1, 0, none⟩ (.int .i64 0)) fun e w' => e = leftV ∧ Below (w3.setCell ⟨RB + 1, 0, none⟩ (.int .i64 0)).heap.size (w3.setCell ⟨RB + 1, 0, none⟩ (.int .i64 0)) w') :=
      HT.out ts hsp _ a b c n (strs_set hS (fun hp => by have := hbb (by omega); omega)) hnn hc
    have z0 := BX4.out.ce
    clear hS hbb ho hsm hl hRW hsp HT
    go_wp2_with (first
      | (go_at_call 94; refine (HY.out _).mono ?_; rintro x wy ⟨rfl, hwy⟩; have hwy2 := hwy.symm; clear hwy; subst hwy2)
      | (go_at_call 51; refine CT.out.mono ?_; rintro x w5 ⟨rfl, b5⟩; have BX5 : Hid (BoxT w5 RB 0 0 (.slice none 0 0) 0) := BX4.out.below b5; have B5 : Hid (Below w.heap.size w w5) := bel_tr B4.out b5; clear b5))
    refine leaves_cons (f := 92) (args := #[.pointer (some ⟨RB + 1, 0, none⟩)]) (by simp) (by simp [go_sem]) ?_
    refine (catchT_panic BX5.out.ce BX5.out.fe []).mono ?_
    rintro e u' w' ⟨rfl, rfl, rfl⟩
    have BX6 := BX5.out.putE 2
    have k0 := BX6.c0
    have k1 := BX6.c1
    have k2 := BX6.c2
    have k3 := BX6.ce
    refine ⟨.tuple #[.agg #[.int .i64 0, .slice none 0 0, .int .i64 0], .int .i64 2], ?_, rfl, Below.setCell B5.out (by have := HRB.out; show _ ≤ RB + 1; omega) _⟩
    simp only [results, Tryz.results50]
    simp [go_sem, k0, k1, k2, k3]

theorem BoxT.sets {W : World} {b : Nat} {er : Int} {ep : Int} {s : Value} {ee : Int} (h : BoxT W b er ep s ee) (ep' : Int) (s' : Value) (ee' : Int) : BoxT (((W.setCell ⟨b, 0, none⟩ (.int .i64 ep')).setCell ⟨b, 1, none⟩ s').setCell ⟨b, 2, none⟩ (.int .i64 ee')) b er ep' s' ee' :=
  ⟨cell_set (by omega) (cell_set (by omega) (World.cell?_setCell_same _ _ _ h.c0)), cell_set (by omega) (World.cell?_setCell_same _ _ _ (cell_set (by omega) h.c1)), World.cell?_setCell_same _ _ _ (cell_set (by omega) (cell_set (by omega) h.c2)),
    other (by omega) (other (by omega) (other (by omega) h.ce)), fun j => by rw [World.frozen?_setCell, World.frozen?_setCell, World.frozen?_setCell]; exact h.fr j, by rw [World.frozen?_setCell, World.frozen?_setCell, World.frozen?_setCell]; exact h.fe⟩
set_option maxRecDepth 100000 in
set_option maxHeartbeats 2000000 in
/-- It comes to its end. -/
theorem takenT_yes (s : ByteArray) (hs : s.size ≤ maxLen) (w : World) {ts : List ByteArray} (hsp : splitL s = some ts) (ep er : Int) (es : List En) (hT : ∀ (W : World) (a : Option Addr) (b c n : Nat), Strs W a b 0 ts → ts.length = n → n ≤ c → Calls Tryz.prog 51 #[.slice a n c] W fun e w' => TldR W.heap.size ep er es e w' ∧ Below W.heap.size W w') :
    Calls Tryz.prog 50 #[.string s, .func (.func 51) #[] #[]] w fun e w' => TkT w.heap.size ep er es e w' ∧ Below w.heap.size w w' := by
  have hmf : ∀ (fn : Fn) (first cap : Array Value) (w : World), (Instr.makeFunc fn first cap).run Tryz.prog w = .ok (.func fn first cap) w := fun _ _ _ _ => rfl
  have hst := fun (w : World) (a : Addr) (x : ByteArray) (m : Mode) => run_store (P := Tryz.prog) w a (.string x) m rfl
  have hst2 : ∀ (w : World) (a : Addr) (x : Option Addr) (n c : Nat) (m : Mode), (store a (.slice x n c) m).run Tryz.prog w = stored Tryz.prog w a (.slice x n c) m := fun w a x n c m => run_store (P := Tryz.prog) w a _ m rfl
  have HS : Hid (∀ W, Calls Tryz.prog 93 #[.string s] W fun e w' => SplitEnds W.heap.size (.int .i64 0) (.int .i64 2) (splitL s) e w' ∧ Below W.heap.size W w') := fun W => split_any s W hs
  have HY : Hid (∀ W, Calls Tryz.prog 94 #[.bool true] W fun e w' => e = .returned (.tuple #[]) ∧ w' = W) := need_yes
  have HT : Hid (∀ (W : World) (a : Option Addr) (b c n : Nat), Strs W a b 0 ts → ts.length = n → n ≤ c → Calls Tryz.prog 51 #[.slice a n c] W fun e w' => TldR W.heap.size ep er es e w' ∧ Below W.heap.size W w') := hT
  have HSP : Hid (splitL s = some ts) := hsp
  clear hT hs hsp
  have hB0 := boxT_new w
  have BB0 : Hid (Below w.heap.size w ((w.alloc (.cells #[.int .i64 0, .slice none 0 0, .int .i64 0] 81)).alloc (.cells #[.int .i64 0] 26))) := bel_tr (bel_al _ _) (bel_al _ _)
  obtain ⟨RB, hRB⟩ : ∃ RB, w.heap.size = RB := ⟨_, rfl⟩
  have HRB : Hid (w.heap.size = RB) := hRB
  rw [hRB] at hB0
  have HB0 : Hid (BoxT ((w.alloc (.cells #[.int .i64 0, .slice none 0 0, .int .i64 0] 81)).alloc (.cells #[.int .i64 0] 26)) RB 0 0 (.slice none 0 0) 0) := hB0
  clear hB0
  go_enter_defers Tryz.func50, Tryz.ntmps50
  go_wp2_with fail
  clear hRB
  generalize (w.alloc (.cells #[.int .i64 0, .slice none 0 0, .int .i64 0] 81)).alloc (.cells #[.int .i64 0] 26) = W2 at *
  refine (HS.out _).mono ?_
  rintro x w3 ⟨hx, b3⟩
  have BX3 : Hid (BoxT w3 RB 0 0 (.slice none 0 0) 0) := HB0.out.below b3
  have B3 : Hid (Below w.heap.size w w3) := bel_tr BB0.out b3
  have e0 := BX3.out.ce
  have fe0 := BX3.out.fe
  clear b3
  rw [HSP.out] at hx
  obtain ⟨v, rfl, ho, hl, hsm⟩ := hx
  obtain ⟨a, c, b, rfl, hn, hc, hS, hbb⟩ := own_strs ho hsm hl
  obtain ⟨n, hnn⟩ : ∃ n, ts.length = n := ⟨_, rfl⟩
  rw [hnn] at hn hc hbb ⊢
  have BX4 : Hid (BoxT (w3.setCell ⟨RB + 1, 0, none⟩ (.int .i64 0)) RB 0 0 (.slice none 0 0) 0) := BX3.out.putE 0
  have B4 : Hid (Below w.heap.size w (w3.setCell ⟨RB + 1, 0, none⟩ (.int .i64 0))) := Below.setCell B3.out (by have := HRB.out; show _ ≤ RB + 1; omega) _
  have hRW : RB + 1 < W2.heap.size := World.block_lt_of_cell? _ _ HB0.out.ce
  have HGE : Hid (RB + 1 < (w3.setCell ⟨RB + 1, 0, none⟩ (.int .i64 0)).heap.size) := World.block_lt_of_cell? _ _ BX4.out.ce
  have CT : Hid (Calls Tryz.prog 51 #[.slice a n c] (w3.setCell ⟨RB + 1, 0, none⟩ (.int .i64 0)) fun e w' => TldR (w3.setCell ⟨RB + 1, 0, none⟩ (.int .i64 0)).heap.size ep er es e w' ∧ Below (w3.setCell ⟨RB + 1, 0, none⟩ (.int .i64 0)).heap.size (w3.setCell ⟨RB + 1, 0, none⟩ (.int .i64 0)) w') :=
    HT.out _ a b c n (strs_set hS (fun hp => by have := hbb (by omega); omega)) hnn hc
  have z0 := BX4.out.ce
  clear hS hbb ho hsm hl hRW HT
  go_wp2_with (first
    | (go_at_call 94; refine (HY.out _).mono ?_; rintro x wy ⟨rfl, hwy⟩; have hwy2 := hwy.symm; clear hwy; subst hwy2)
    | (go_at_call 51; refine CT.out.mono ?_; rintro x w5 ⟨⟨ea, ec, eg, hxe, hC⟩, b5⟩; subst hxe; have BX5 : Hid (BoxT w5 RB 0 0 (.slice none 0 0) 0) := BX4.out.below b5; have B5 : Hid (Below w.heap.size w w5) := bel_tr B4.out b5; have HC5 : Hid (Cel (fun q => RB + 1 < q) w5 2 (.slice ea es.length ec) es.length (rowC enC es) eg) := hC.stay (Nat.le_refl _) (fun _ _ => rfl) (fun q hq => Nat.lt_of_lt_of_le HGE.out hq); clear b5 hC z0 e0 fe0; have y0 := BX5.out.c0; have y1 := BX5.out.c1; have y2 := BX5.out.c2; have ye := BX5.out.ce; have f0 := BX5.out.fr 0; have f1 := BX5.out.fr 1; have f2 := BX5.out.fr 2; have fe := BX5.out.fe))
  have BX6 : Hid (BoxT (((w5.setCell ⟨RB, 0, none⟩ (.int .i64 ep)).setCell ⟨RB, 1, none⟩ (.slice ea es.length ec)).setCell ⟨RB, 2, none⟩ (.int .i64 er)) RB 0 ep (.slice ea es.length ec) er) := BX5.out.sets ep (.slice ea es.length ec) er
  have BX7 : Hid (BoxT ((((w5.setCell ⟨RB, 0, none⟩ (.int .i64 ep)).setCell ⟨RB, 1, none⟩ (.slice ea es.length ec)).setCell ⟨RB, 2, none⟩ (.int .i64 er)).setCell ⟨RB + 1, 0, none⟩ (.int .i64 0)) RB 0 ep (.slice ea es.length ec) er) := BX6.out.putE 0
  have hs7 : Stay (fun q => q = RB ∨ q = RB + 1) w5 ((((w5.setCell ⟨RB, 0, none⟩ (.int .i64 ep)).setCell ⟨RB, 1, none⟩ (.slice ea es.length ec)).setCell ⟨RB, 2, none⟩ (.int .i64 er)).setCell ⟨RB + 1, 0, none⟩ (.int .i64 0)) :=
    (Stay.to (stay_sets w5 RB _ _ _) (fun q hq => .inl hq)).then_same (Stay.to (stay_set _ (RB + 1) 0 _) (fun q hq => .inr hq))
  have HB7 : Hid (Below w.heap.size w ((((w5.setCell ⟨RB, 0, none⟩ (.int .i64 ep)).setCell ⟨RB, 1, none⟩ (.slice ea es.length ec)).setCell ⟨RB, 2, none⟩ (.int .i64 er)).setCell ⟨RB + 1, 0, none⟩ (.int .i64 0))) := B5.out.trans (hs7.below B5.out.size (fun q hq => by have := HRB.out; omega))
  have HC7 : Hid (Cel (fun q => w.heap.size ≤ q) ((((w5.setCell ⟨RB, 0, none⟩ (.int .i64 ep)).setCell ⟨RB, 1, none⟩ (.slice ea es.length ec)).setCell ⟨RB, 2, none⟩ (.int .i64 er)).setCell ⟨RB + 1, 0, none⟩ (.int .i64 0)) 2 (.slice ea es.length ec) es.length (rowC enC es) eg) :=
    HC5.out.stay hs7.size (fun q hq => hs7.block q (by have h9 := HC5.out; rw [hq] at h9; exact h9.lt.1) (fun e => by have h9 := HC5.out; rw [hq] at h9; have h8 : RB + 1 < q := h9.lt.2; omega)) (fun q hq => by have h9 : RB + 1 < q := hq; have := HRB.out; omega)
  clear y0 y1 y2 ye f0 f1 f2 fe hs7 BX6 BX5 HC5 B5
  generalize ((((w5.setCell ⟨RB, 0, none⟩ (.int .i64 ep)).setCell ⟨RB, 1, none⟩ (.slice ea es.length ec)).setCell ⟨RB, 2, none⟩ (.int .i64 er)).setCell ⟨RB + 1, 0, none⟩ (.int .i64 0)) = W7 at *
  refine leaves_cons (f := 92) (args := #[.pointer (some ⟨RB + 1, 0, none⟩)]) (by simp) (by simp [go_sem]) ?_
  refine catchT_idle.mono ?_
  rintro e u' w' ⟨rfl, rfl, rfl⟩
  have k0 := BX7.out.c0
  have k1 := BX7.out.c1
  have k2 := BX7.out.c2
  have k3 := BX7.out.ce
  refine ⟨.tuple #[.agg #[.int .i64 ep, .slice ea es.length ec, .int .i64 er], .int .i64 0], ?_, ⟨_, _, _, rfl, HC7.out⟩, HB7.out⟩
  simp only [results, Tryz.results50]
  simp [go_sem, k0, k1, k2, k3]


/-- What becomes of bytes that are to be an answer. -/
def TtO (base : Nat) (r : Option (Lg × Int)) (e : Ending) (w' : World) : Prop := match r with
  | none => e = .returned (.tuple #[.agg #[.int .i64 0, .slice none 0 0, .int .i64 0], .int .i64 2])
  | some (l, er) => TkT base l.ep er l.es e w'
def ansS (s : ByteArray) : Option (Lg × Int) := match splitL s with
  | none => none
  | some ts => ansP ts
theorem takenT_any (s : ByteArray) (hs : s.size ≤ maxLen) (w : World) : Calls Tryz.prog 50 #[.string s, .func (.func 51) #[] #[]] w fun e w' => TtO w.heap.size (ansS s) e w' ∧ Below w.heap.size w w' := by
  cases hr : ansS s with
  | none =>
    refine takenT_no s hs w (fun ts hts W a b c n hS hn hc => ?_)
    have h1 : ansP ts = none := by unfold ansS at hr; rw [hts] at hr; exact hr
    have h2 := takeAnswer_any hS n c hn hc (by have := split_len hts; omega) (split_small hts)
    rw [h1] at h2
    exact h2
  | some r =>
    obtain ⟨l, er⟩ := r
    cases hts : splitL s with
    | none => unfold ansS at hr; rw [hts] at hr; cases hr
    | some ts =>
      refine takenT_yes s hs w hts l.ep er l.es (fun W a b c n hS hn hc => ?_)
      have h1 : ansP ts = some (l, er) := by unfold ansS at hr; rw [hts] at hr; exact hr
      have h2 := takeAnswer_any hS n c hn hc (by have := split_len hts; omega) (split_small hts)
      rw [h1] at h2
      exact h2
theorem ansP_err {ts : List ByteArray} {l : Lg} {er : Int} (h : ansP ts = some (l, er)) (he : er ≠ 0) : l = ⟨0, []⟩ := by
  unfold ansP at h
  split at h
  · cases h
  · split at h
    · cases h
    · split at h
      · split at h
        · cases h; rfl
        · split at h
          · unfold logP at h
            split at h
            · split at h
              · cases h; exact absurd rfl he
              · cases h
            · cases h
          · cases h
      · cases h
theorem toldP_of (s : ByteArray) : toldP s = (match ansS s with | none => (⟨0, []⟩, 2) | some r => r) := by
  unfold toldP ansS
  cases splitL s with
  | none => rfl
  | some ts => rfl
theorem toldP_err {s : ByteArray} (h : (toldP s).2 ≠ 0) : (toldP s).1 = ⟨0, []⟩ := by
  unfold toldP at h ⊢
  split
  · rfl
  · rename_i ts hts
    rw [hts] at h
    simp only at h ⊢
    split
    · rfl
    · rename_i r hr
      rw [hr] at h
      exact ansP_err (l := r.1) (er := r.2) hr h
/-- A log, and an error; the log's row is the call's own. -/
structure LgE (base : Nat) (l : Lg) (er : Int) (e : Ending) (w' : World) : Prop where
  ex : ∃ a c g, e = .returned (.tuple #[.agg #[.int .i64 l.ep, .slice a l.es.length c], .int .i64 er]) ∧ Cel (fun q => base ≤ q) w' 2 (.slice a l.es.length c) l.es.length (rowC enC l.es) g

set_option maxRecDepth 100000 in
set_option maxHeartbeats 2000000 in
theorem told_val (s : ByteArray) (hs : s.size ≤ maxLen) (w : World) : Calls Tryz.prog 14 #[.string s] w fun e w' => LgE w.heap.size (toldP s).1 (toldP s).2 e w' ∧ Below w.heap.size w w' := by
  have hst2 : ∀ (w : World) (a : Addr) (x : Option Addr) (n c : Nat) (m : Mode), (store a (.slice x n c) m).run Tryz.prog w = stored Tryz.prog w a (.slice x n c) m := fun w a x n c m => run_store (P := Tryz.prog) w a _ m rfl
  have CT : Hid (∀ W, Calls Tryz.prog 50 #[.string s, .func (.func 51) #[] #[]] W fun e w' => TtO W.heap.size (ansS s) e w' ∧ Below W.heap.size W w') := fun W => takenT_any s hs W
  have hof := toldP_of s
  have herr := @toldP_err s
  obtain ⟨q0, q1, f0, f1⟩ := cells2 w (.int .i64 0) (.slice none 0 0) 34
  have B1 : Hid (Below w.heap.size w (w.alloc (.cells #[.int .i64 0, .slice none 0 0] 34))) := bel_al _ _
  have hz1 : (w.alloc (.cells #[.int .i64 0, .slice none 0 0] 34)).heap.size = w.heap.size + 1 := by simp
  obtain ⟨⟨l, er⟩, hP⟩ : ∃ x, toldP s = x := ⟨_, rfl⟩
  rw [hP] at hof herr ⊢
  simp only at herr ⊢
  clear hP
  obtain ⟨RB, hRB⟩ : ∃ RB, w.heap.size = RB := ⟨_, rfl⟩
  have HRB : Hid (w.heap.size = RB) := hRB
  simp only [hRB] at q0 q1 f0 f1
  go_enter Tryz.func14, Tryz.ntmps14
  go_upto_region 1 with fail
  try simp only [hRB]
  generalize w.alloc (.cells #[.int .i64 0, .slice none 0 0] 34) = W1 at *
  have HZ1 : Hid (W1.heap.size = w.heap.size + 1) := hz1
  clear hz1 hRB
  have ENDS : Hid (∀ (W : World) (ep : Int) (a : Option Addr) (n c : Nat) (es : List En) (g : Option Nat), es.length = n → Below W1.heap.size W1 W → Cel (fun q => RB < q) W 2 (.slice a n c) n (rowC enC es) g → ((W.setCell ⟨RB, 0, none⟩ (.int .i64 ep)).setCell ⟨RB, 1, none⟩ (.slice a n c)).cell? ⟨RB, 0, none⟩ = some (.int .i64 ep) ∧ ((W.setCell ⟨RB, 0, none⟩ (.int .i64 ep)).setCell ⟨RB, 1, none⟩ (.slice a n c)).cell? ⟨RB, 1, none⟩ = some (.slice a n c) ∧ Cel (fun q => w.heap.size ≤ q) ((W.setCell ⟨RB, 0, none⟩ (.int .i64 ep)).setCell ⟨RB, 1, none⟩ (.slice a n c)) 2 (.slice a es.length c) es.length (rowC enC es) g ∧ Below w.heap.size w ((W.setCell ⟨RB, 0, none⟩ (.int .i64 ep)).setCell ⟨RB, 1, none⟩ (.slice a n c))) := by
    intro W ep a n c es g hn hb hC
    subst hn
    obtain ⟨z0, z1⟩ := two_set (u' := .int .i64 ep) (v' := .slice a es.length c) (bel_cell hb q0) (bel_cell hb q1)
    have hs : Stay (fun q => q = RB) W ((W.setCell ⟨RB, 0, none⟩ (.int .i64 ep)).setCell ⟨RB, 1, none⟩ (.slice a es.length c)) := (stay_set W RB 0 _).then_same (stay_set _ RB 1 _)
    have hb2 := bel_tr B1.out hb
    have h2 := HRB.out
    exact ⟨z0, z1, hC.stay hs.size (fun q hq => hs.block q (by rw [hq] at hC; exact hC.lt.1) (fun e => by rw [hq] at hC; have h9 : RB < q := hC.lt.2; omega)) (fun q hq => by have h9 : RB < q := hq; omega), hb2.trans (hs.below hb2.size (fun q hq => by omega))⟩
  have F0 : Hid (∀ W, Below W1.heap.size W1 W → W.cell? ⟨RB, 0, none⟩ = some (.int .i64 0) ∧ W.cell? ⟨RB, 1, none⟩ = some (.slice none 0 0) ∧ W.frozen? ⟨RB, 0, none⟩ = false ∧ W.frozen? ⟨RB, 1, none⟩ = false) := fun W hb => ⟨bel_cell hb q0, bel_cell hb q1, (World.frozen?_of_block (a := ⟨RB, 0, none⟩) (hb.block RB (World.block_lt_of_cell? _ _ q0))).trans f0, (World.frozen?_of_block (a := ⟨RB, 1, none⟩) (hb.block RB (World.block_lt_of_cell? _ _ q0))).trans f1⟩
  clear q0 q1 f0 f1
  cases hA : ansS s with
  | none =>
    rw [hA] at CT hof
    cases hof
    clear hA herr
    go_wp2_with (go_at_call 50; refine (CT.out _).mono ?_; rintro x w2 ⟨hx, b2⟩; replace hx : x = .returned (.tuple #[.agg #[.int .i64 0, .slice none 0 0, .int .i64 0], .int .i64 2]) := hx; subst hx; have B2 : Hid (Below W1.heap.size W1 (w2.alloc (.cells #[.int .i64 0, .slice none 0 0, .int .i64 0] 81))) := bel_tr b2 (bel_al _ _); clear b2; obtain ⟨z0, z1, f0, f1⟩ := F0.out _ B2.out)
    obtain ⟨k0, k1, k2, k3⟩ := ENDS.out _ 0 none 0 0 [] none rfl B2.out (.nil rfl rfl rfl)
    refine bodyPost_ret (v := .tuple #[.agg #[.int .i64 0, .slice none 0 0], .int .i64 2]) ?_ rfl ⟨⟨_, _, _, rfl, k2⟩, k3⟩
    simp only [results, Tryz.results14]
    simp [go_sem, k0, k1]
  | some r =>
    rw [hA] at CT hof
    simp only at hof
    subst hof
    obtain ⟨ep, es⟩ := l
    obtain ⟨n, hn⟩ : ∃ n, es.length = n := ⟨_, rfl⟩
    have HN : Hid (es.length = n) := hn
    clear hA hn herr
    replace CT : Hid (∀ W, Calls Tryz.prog 50 #[.string s, .func (.func 51) #[] #[]] W fun e w' => TkT W.heap.size ep er es e w' ∧ Below W.heap.size W w') := CT
    go_upto_region 2 with (go_at_call 50; refine (CT.out _).mono ?_; rintro x w2 ⟨⟨a, c, g, hx, hC⟩, b2⟩; rw [HN.out] at hx hC; subst hx; have B2 : Hid (Below W1.heap.size W1 w2) := b2; have HC2 : Hid (Cel (fun q => W1.heap.size ≤ q) w2 2 (.slice a n c) n (rowC enC es) g) := hC; clear b2 hC)
    have B3 : Hid (Below W1.heap.size W1 (w2.alloc (.cells #[.int .i64 ep, .slice a n c, .int .i64 er] 81))) := bel_tr B2.out (bel_al _ _)
    have HC3 : Hid (Cel (fun q => RB < q) (w2.alloc (.cells #[.int .i64 ep, .slice a n c, .int .i64 er] 81)) 2 (.slice a n c) n (rowC enC es) g) := (HC2.out.below (bel_al _ _)).stay (Nat.le_refl _) (fun _ _ => rfl) (fun z hz => by have h9 : W1.heap.size ≤ z := hz; have := HZ1.out; have := HRB.out; omega)
    have y0 := World.cell?_alloc_new w2 #[.int .i64 ep, .slice a n c, .int .i64 er] 81 0
    have y1 := World.cell?_alloc_new w2 #[.int .i64 ep, .slice a n c, .int .i64 er] 81 1
    have y2 := World.cell?_alloc_new w2 #[.int .i64 ep, .slice a n c, .int .i64 er] 81 2
    have y0' : (w2.alloc (.cells #[.int .i64 ep, .slice a n c, .int .i64 er] 81)).cell? ⟨w2.heap.size, 0, none⟩ = some (.int .i64 ep) := y0
    have y1' : (w2.alloc (.cells #[.int .i64 ep, .slice a n c, .int .i64 er] 81)).cell? ⟨w2.heap.size, 1, none⟩ = some (.slice a n c) := y1
    have y2' : (w2.alloc (.cells #[.int .i64 ep, .slice a n c, .int .i64 er] 81)).cell? ⟨w2.heap.size, 2, none⟩ = some (.int .i64 er) := y2
    clear y0 y1 y2 HC2 B2
    generalize w2.alloc (.cells #[.int .i64 ep, .slice a n c, .int .i64 er] 81) = W3 at *
    generalize w2.heap.size = TB at *
    obtain ⟨z0, z1, f0, f1⟩ := F0.out _ B3.out
    go_upto_region 4 with fail
    go_region
    go_wp2
    obtain ⟨k0, k1, k2, k3⟩ := ENDS.out _ ep a n c es g HN.out B3.out HC3.out
    have k4 := k2.below (bel_dr1' _)
    have k5 := bel_tr k3 (bel_dr1' _)
    refine bodyPost_ret (v := .tuple #[.agg #[.int .i64 ep, .slice a n c], .int .i64 er]) ?_ rfl ⟨⟨a, c, g, by simp only [HN.out], k4⟩, k5⟩
    simp only [results, Tryz.results14]
    simp [go_sem, k0, k1]

end Go.Proofs.YtfmhmokbbkliaaaGreat.Jrn

/- The contracts of tabulariumlaw15.pick, accept, add, said, begins, asked. -/
namespace Go.Proofs.YtfmhmokbbkliaaaGreat.Jrn
open Go.RowKit Go.Proofs.YtfmhmokbbkliaaaGreat Go.Proofs.YtfmhmokbbkliaaaGreat.Wir Go.Proofs.YtfmhmokbbkliaaaGreat.Lgg Go.Proofs.YtfmhmokbbkliaaaGreat.Sep
open Go.Proofs.YtfmhmokbbkliaaaGreat.Smm (bytes_ne)
set_option linter.unusedVariables false

set_option maxRecDepth 100000 in
theorem pick15_val (k : Int) (n Q : Nat) (w : World) (hk : -9223372036854775808 ≤ k ∧ k ≤ 9223372036854775807) (hn : 0 < n ∧ n ≤ 1000) (hQ : keepN k % n = Q) :
    Calls Tryz.prog 23 #[.int .i64 k, .int .i64 n] w fun e w' => e = .returned (.int .i64 Q) ∧ w' = w := by
  have hlt := Nat.mod_lt (keepN k) hn.1
  rw [hQ] at hlt
  unfold keepN at hQ
  by_cases hneg : k < 0
  · rw [if_pos hneg] at hQ
    obtain ⟨kn, hkn⟩ : ∃ kn, (-(k + 1)).toNat = kn := ⟨_, rfl⟩
    rw [hkn] at hQ
    have hkk : -(k + 1) = (kn : Int) := by omega
    have hr1 : (kn : Int).tmod (n : Int) = (Q : Int) := by rw [Int.tmod_eq_emod_of_nonneg (by omega), ← hQ]; rfl
    have hr2 : (kn : Int) % (n : Int) = (Q : Int) := by rw [← hQ]; rfl
    clear hQ hkn
    go_enter Tryz.func23, Tryz.ntmps23
    go_wp2
    go_ret
    exact ⟨rfl, rfl⟩
  · rw [if_neg hneg] at hQ
    obtain ⟨kn, hkn⟩ : ∃ kn, k.toNat = kn := ⟨_, rfl⟩
    rw [hkn] at hQ
    obtain rfl : k = (kn : Int) := by omega
    have hr1 : (kn : Int).tmod (n : Int) = (Q : Int) := by rw [Int.tmod_eq_emod_of_nonneg (by omega), ← hQ]; rfl
    have hr2 : (kn : Int) % (n : Int) = (Q : Int) := by rw [← hQ]; rfl
    clear hQ hkn
    go_enter Tryz.func23, Tryz.ntmps23
    go_wp2
    go_ret
    exact ⟨rfl, rfl⟩

set_option maxRecDepth 100000 in
theorem said_val (s : ByteArray) (hs : s.size ≤ maxLen) (q : Int) (hq : (toldP s).2 = q) (w : World) :
    Calls Tryz.prog 41 #[.string s] w fun e w' => e = .returned (.int .i64 q) ∧ Below w.heap.size w w' := by
  have hst2 : ∀ (w : World) (a : Addr) (x : Option Addr) (n c : Nat) (m : Mode), (store a (.slice x n c) m).run Tryz.prog w = stored Tryz.prog w a (.slice x n c) m := fun w a x n c m => run_store (P := Tryz.prog) w a _ m rfl
  obtain ⟨⟨⟨ep, es⟩, er⟩, hx⟩ : ∃ x, toldP s = x := ⟨_, rfl⟩
  have CT : Hid (∀ W, Calls Tryz.prog 14 #[.string s] W fun e w' => LgE W.heap.size ⟨ep, es⟩ er e w' ∧ Below W.heap.size W w') := fun W => by have := told_val s hs W; rw [hx] at this; exact this
  rw [hx] at hq
  replace hq : er = q := hq
  subst hq
  clear hx hs
  obtain ⟨n, hn⟩ : ∃ n, es.length = n := ⟨_, rfl⟩
  have HN : Hid (es.length = n) := hn
  clear hn
  go_enter Tryz.func41, Tryz.ntmps41
  go_wp2_with (go_at_call 14; refine (CT.out _).mono ?_; rintro e w1 ⟨⟨a, c, g, hx, hC⟩, b1⟩; simp only [HN.out] at hx; subst hx; have B1 : Hid (Below w.heap.size w w1) := b1; clear b1 hC)
  go_ret
  exact ⟨rfl, bel_tr B1.out (bel_al _ _)⟩

theorem rt_one : RtL ⟨1, []⟩ := ⟨rfl, by simp, fun i h => by simp at h⟩
set_option maxRecDepth 100000 in
theorem accept15_val (w : World) : Calls Tryz.prog 43 #[.int .i64 1, .slice none 0 0] w fun e w' => e = .returned (.string (joinT (accTs 1 []))) ∧ Below w.heap.size w w' := by
  obtain ⟨J, hJ⟩ : ∃ J, joinT (accTs 1 []) = J := ⟨_, rfl⟩
  have CA : Hid (∀ W, Calls Tryz.prog 10 #[.int .i64 1, .slice none 0 0] W fun e w' => e = .returned (.tuple #[.string J, .int .i64 0]) ∧ Below W.heap.size W w') := fun W => accept_yes (Lie.nil enC (fun _ => True) W none) 1 0 0 rfl rt_one J hJ
  rw [hJ]
  clear hJ
  go_enter Tryz.func43, Tryz.ntmps43
  go_wp2_with (go_at_call 10; refine (CA.out _).mono ?_; rintro e w1 ⟨rfl, b1⟩)
  go_ret
  exact ⟨rfl, b1⟩

set_option maxRecDepth 100000 in
theorem add15_val (ep : Int) (h0 : -9223372036854775808 ≤ ep) (h1 : ep ≤ 9223372036854775807) (tx : Int) (d : ByteArray) (hv : addR1 ⟨tx, d⟩ = true) (w : World) : Calls Tryz.prog 42 #[.int .i64 ep, .int .i64 tx, .string d] w fun e w' => e = .returned (.string (joinT [wT, numT ep, numT tx, d])) ∧ Below w.heap.size w w' := by
  obtain ⟨J, hJ⟩ : ∃ J, joinT [wT, numT ep, numT tx, d] = J := ⟨_, rfl⟩
  have CA : Hid (∀ W, Calls Tryz.prog 12 #[.int .i64 ep, .agg #[.int .i64 tx, .string d]] W fun e w' => e = .returned (.tuple #[.string J, .int .i64 0]) ∧ Below W.heap.size W w') := fun W => add_yes ep h0 h1 ⟨tx, d⟩ hv W J hJ
  rw [hJ]
  clear hJ hv h0 h1
  go_enter Tryz.func42, Tryz.ntmps42
  go_wp2_with (go_at_call 12; refine (CA.out _).mono ?_; rintro e w1 ⟨rfl, b1⟩)
  go_ret
  exact ⟨rfl, b1⟩

set_option maxRecDepth 100000 in
set_option maxHeartbeats 2000000 in
theorem begins15_val {O O2 : Nat → Prop} {w : World} {a a' : Option Addr} {xs ys : List En} (h1 : Lie enC O w a xs) (h2 : Lie enC O2 w a' ys) (n m c c' : Nat) (hn : xs.length = n) (hm : ys.length = m) (v : Bool) (hv : v = true ↔ xs.take ys.length = ys) :
    Calls Tryz.prog 40 #[.slice a n c, .slice a' m c'] w fun e w' => e = .returned (.bool v) ∧ Below w.heap.size w w' := by
  have hl1 := h1.lid
  rw [hn] at hl1
  unfold maxLen at hl1
  have H1 : Hid (Lie enC O w a xs) := h1
  have H2 : Hid (Lie enC O2 w a' ys) := h2
  have HN : Hid (xs.length = n) := hn
  have HM : Hid (ys.length = m) := hm
  have HV : Hid (v = true ↔ xs.take ys.length = ys) := hv
  clear h1 h2 hn hm hv
  by_cases hnm : n < m
  · have hvf : v = false := by
      cases v with
      | false => rfl
      | true =>
        have := congrArg List.length (HV.out.1 rfl)
        rw [List.length_take, HN.out, HM.out] at this
        omega
    subst hvf
    clear HV
    go_enter Tryz.func40, Tryz.ntmps40
    go_wp2
    go_ret
    exact ⟨rfl, Below.refl _ _⟩
  · go_enter Tryz.func40, Tryz.ntmps40
    go_wp2
    go_loopw [5] (fun u wr => ∃ i d : Nat, i ≤ m ∧ u = .int .i64 i ∧ wr = w.drewN d ∧ ∀ j (h1 : j < xs.length) (h2 : j < ys.length), j < i → xs[j] = ys[j]) (fun u _ => m - (intOf u).toNat)
    case atStart => exact ⟨0, 0, by omega, rfl, rfl, fun j _ _ h => by omega⟩
    case round =>
      obtain ⟨i, d, hi, rfl, hd, hall⟩ := hrel
      by_cases hlt : i < m
      · have e1 : i < xs.length := by rw [HN.out]; omega
        have e2 : i < ys.length := by rw [HM.out]; exact hlt
        have hb : Below w.heap.size w wr := by rw [hd]; exact bel_dr _ _
        obtain ⟨b, off, rfl, hc⟩ := (H1.out.below hb).at wideN e1
        obtain ⟨b', off', rfl, hc'⟩ := (H2.out.below hb).at wideN e2
        have hno : ¬ xs[i] = ys[i] → v = false := fun hno => by
          cases v with
          | false => rfl
          | true =>
            have h9 := HV.out.1 rfl
            have h8 : (xs.take ys.length)[i]? = ys[i]? := by rw [h9]
            rw [List.getElem?_take, if_pos e2, List.getElem?_eq_getElem e1, List.getElem?_eq_getElem e2] at h8
            exact absurd (Option.some.inj h8) hno
        have HNX : Hid (xs[i] = ys[i] → ∀ j (h1 : j < xs.length) (h2 : j < ys.length), j < i + 1 → xs[j] = ys[j]) := fun hk j h1 h2 hji => by
          rcases Nat.lt_or_ge j i with h | h
          · exact hall j h1 h2 h
          · obtain rfl : j = i := by omega
            exact hk
        have hin : i < n := by omega
        generalize xs[i] = x at *
        generalize ys[i] = y at *
        obtain ⟨tx, dx⟩ := x
        obtain ⟨ty, dy⟩ := y
        have q0 : wr.cell? ⟨b, off + i * 2, none⟩ = some (.int .i64 tx) := hc 0 _ rfl
        have q1 : wr.cell? ⟨b, off + i * 2 + 1, none⟩ = some (.string dx) := hc 1 _ rfl
        have r0 : wr.cell? ⟨b', off' + i * 2, none⟩ = some (.int .i64 ty) := hc' 0 _ rfl
        have r1 : wr.cell? ⟨b', off' + i * 2 + 1, none⟩ = some (.string dy) := hc' 1 _ rfl
        have HD : Hid (wr = w.drewN d) := hd
        clear hd hc hc' hb H1 H2 hall
        by_cases hx : tx = ty
        · by_cases hs : dx = dy
          · have HK : Hid (∀ j (h1 : j < xs.length) (h2 : j < ys.length), j < i + 1 → xs[j] = ys[j]) := HNX.out (by rw [hx, hs])
            subst hx hs
            clear hno HNX
            go_wp2
            go_quiet (fail)
            go_wp2
            go_roundw
            case rel => exact ⟨i + 1, d + nq, by omega, by go_num, by rw [HD.out, World.drewN_drewN], HK.out⟩
            case measure => simp [intOf]; omega
          · have hvf := hno (fun e => by injection e with _ e2; exact hs e2)
            have hbe := bytes_ne hs
            subst hx hvf
            clear hno HNX HV hs
            go_wp2
            go_quiet (fail)
            go_wp2
            go_ret
            exact ⟨rfl, by rw [HD.out, World.drewN_drewN]; exact bel_dr _ _⟩
        · have hvf := hno (fun e => by injection e with e2 _; exact hx e2)
          subst hvf
          clear hno HNX HV
          go_wp2
          go_quiet (fail)
          go_wp2
          go_ret
          exact ⟨rfl, by rw [HD.out, World.drewN_drewN]; exact bel_dr _ _⟩
      · have hvt : v = true := HV.out.2 (List.ext_getElem (by rw [List.length_take, HN.out, HM.out]; omega) (fun j h1 h2 => by rw [List.getElem_take]; exact hall j (by have := HN.out; have := HM.out; omega) h2 (by have := HM.out; omega)))
        subst hvt
        have HD : Hid (wr = w.drewN d) := hd
        clear hd hall HV
        go_wp2
        go_ret
        exact ⟨rfl, by rw [HD.out]; exact bel_dr _ _⟩

/-! ### what a deed asks -/
def rtB (ep : Int) (es : List En) : Bool := epOk ep && decide (es.length ≤ 300) && decide (∀ i : Fin es.length, es[i].tx = ((i.1 + 1 : Nat) : Int) ∧ es[i].d.size ≤ 600)
theorem rtB_iff (ep : Int) (es : List En) : rtB ep es = true ↔ RtL ⟨ep, es⟩ := by
  unfold rtB
  simp only [Bool.and_eq_true, decide_eq_true_eq]
  constructor
  · rintro ⟨⟨h1, h2⟩, h3⟩
    exact ⟨h1, h2, fun i hi => h3 ⟨i, hi⟩⟩
  · rintro ⟨h1, h2, h3⟩
    exact ⟨⟨h1, h2⟩, fun i => h3 i.1 i.2⟩
def askT (k ep : Int) (es : List En) (x : En) (raw : ByteArray) : ByteArray :=
  if keepN k % 8 = 0 then joinT [pT, numT ep]
  else if keepN k % 8 = 1 then (if rtB ep es = true then joinT (accTs ep es) else ⟨#[]⟩)
  else if keepN k % 8 ≤ 4 then (if addR1 x = true then joinT [wT, numT ep, numT x.tx, x.d] else ⟨#[]⟩)
  else raw
theorem ask_small {k ep : Int} {es : List En} {x : En} {raw : ByteArray} (h : raw.size ≤ maxLen) : (askT k ep es x raw).size ≤ maxLen := by
  unfold askT
  split
  · exact join_small
  · split
    · split
      · exact join_small
      · exact Nat.zero_le _
    · split
      · split
        · exact join_small
        · exact Nat.zero_le _
      · exact h

theorem cells8 (w : World) (v0 v1 v2 v3 v4 v5 v6 v7 : Value) (t : TypeId) :
    (w.alloc (.cells #[v0, v1, v2, v3, v4, v5, v6, v7] t)).cell? ⟨w.heap.size, 0, none⟩ = some v0 ∧ (w.alloc (.cells #[v0, v1, v2, v3, v4, v5, v6, v7] t)).cell? ⟨w.heap.size, 1, none⟩ = some v1 ∧ (w.alloc (.cells #[v0, v1, v2, v3, v4, v5, v6, v7] t)).cell? ⟨w.heap.size, 2, none⟩ = some v2 ∧ (w.alloc (.cells #[v0, v1, v2, v3, v4, v5, v6, v7] t)).cell? ⟨w.heap.size, 3, none⟩ = some v3 ∧ (w.alloc (.cells #[v0, v1, v2, v3, v4, v5, v6, v7] t)).cell? ⟨w.heap.size, 4, none⟩ = some v4 ∧ (w.alloc (.cells #[v0, v1, v2, v3, v4, v5, v6, v7] t)).cell? ⟨w.heap.size, 5, none⟩ = some v5 :=
  ⟨World.cell?_alloc_new w _ _ 0, World.cell?_alloc_new w _ _ 1, World.cell?_alloc_new w _ _ 2, World.cell?_alloc_new w _ _ 3, World.cell?_alloc_new w _ _ 4, World.cell?_alloc_new w _ _ 5⟩

set_option maxRecDepth 100000 in
set_option maxHeartbeats 2000000 in
theorem asked_val {O : Nat → Prop} {w : World} (k ep : Int) (a : Option Addr) (n c : Nat) (es : List En) (x : En) (raw : ByteArray) (mm : Int) (ka : Option Addr) (kn kc : Nat) (h : Lie enC O w a es) (hd : ∀ y ∈ es, y.d.size ≤ maxLen) (hk : -9223372036854775808 ≤ k ∧ k ≤ 9223372036854775807) (he : -9223372036854775808 ≤ ep ∧ ep ≤ 9223372036854775807) (hx : x.d.size ≤ maxLen) (hn : es.length = n) (T : ByteArray) (hT : askT k ep es x raw = T) :
    Calls Tryz.prog 29 #[.agg #[.int .i64 k, .int .i64 ep, .slice a n c, .int .i64 x.tx, .string x.d, .string raw, .int .i64 mm, .slice ka kn kc]] w fun e w' => e = .returned (.string T) ∧ Below w.heap.size w w' := by
  obtain ⟨Q, hQ⟩ : ∃ Q, keepN k % 8 = Q := ⟨_, rfl⟩
  have hlt : Q < 8 := by rw [← hQ]; exact Nat.mod_lt _ (by omega)
  have CP : Hid (∀ W, Calls Tryz.prog 23 #[.int .i64 k, .int .i64 8] W fun e w' => e = .returned (.int .i64 Q) ∧ w' = W) := fun W => pick15_val k 8 Q W hk (by omega) hQ
  unfold askT at hT
  rw [hQ] at hT
  obtain ⟨tx, d⟩ := x
  simp only at hx hT ⊢
  obtain ⟨q0, q1, q2, q3, q4, q5⟩ := cells8 w (.int .i64 k) (.int .i64 ep) (.slice a n c) (.int .i64 tx) (.string d) (.string raw) (.int .i64 mm) (.slice ka kn kc) 55
  have HB : Hid (Below w.heap.size w (w.alloc (.cells #[.int .i64 k, .int .i64 ep, .slice a n c, .int .i64 tx, .string d, .string raw, .int .i64 mm, .slice ka kn kc] 55))) := bel_al _ _
  have LW : Hid (Lie enC O (w.alloc (.cells #[.int .i64 k, .int .i64 ep, .slice a n c, .int .i64 tx, .string d, .string raw, .int .i64 mm, .slice ka kn kc] 55)) a es) := h.below (bel_al _ _)
  have HE : Hid ((-9223372036854775808 ≤ ep ∧ ep ≤ 9223372036854775807) ∧ (∀ y ∈ es, y.d.size ≤ maxLen) ∧ d.size ≤ maxLen ∧ es.length = n) := ⟨he, hd, hx, hn⟩
  obtain ⟨R, hR⟩ : ∃ R, w.heap.size = R := ⟨_, rfl⟩
  rw [hR] at q0 q1 q2 q3 q4 q5
  have HR : Hid (w.heap.size = R) := hR
  clear hQ h hd hk he hx hn
  go_enter Tryz.func29, Tryz.ntmps29
  go_upto_region 1 with fail
  try rw [hR]
  clear hR
  generalize w.alloc (.cells #[.int .i64 k, .int .i64 ep, .slice a n c, .int .i64 tx, .string d, .string raw, .int .i64 mm, .slice ka kn kc] 55) = W1 at *
  have hways : Q = 0 ∨ Q = 1 ∨ Q = 2 ∨ Q = 3 ∨ Q = 4 ∨ Q = 5 ∨ Q = 6 ∨ Q = 7 := by omega
  clear hlt
  rcases hways with rfl | rfl | rfl | rfl | rfl | rfl | rfl | rfl
  · rw [if_pos rfl] at hT
    have CC : Hid (∀ W, Calls Tryz.prog 18 #[.int .i64 ep] W fun e w' => e = .returned (.string T) ∧ Below W.heap.size W w') := fun W => refPromise_val ep HE.out.1.1 HE.out.1.2 W T hT
    clear hT
    go_wp2_with (first
      | (go_at_call 23; refine (CP.out _).mono ?_; rintro e w1 ⟨rfl, hwy⟩; have hwz := hwy.symm; subst hwz; clear hwy)
      | (go_at_call 18; refine (CC.out _).mono ?_; rintro e w2 ⟨rfl, b2⟩))
    go_ret
    exact ⟨rfl, bel_tr HB.out b2⟩
  · rw [if_neg (by omega), if_pos rfl] at hT
    cases hv : rtB ep es with
    | true =>
      rw [hv, if_pos rfl] at hT
      have CC : Hid (Calls Tryz.prog 11 #[.int .i64 ep, .slice a n c] W1 fun e w' => e = .returned (.tuple #[.string T, .bool true]) ∧ Below W1.heap.size W1 w') := refAcceptQ_yes LW.out ep n c HE.out.2.2.2 ((rtB_iff _ _).1 hv) T hT
      clear hT hv
      go_wp2_with (first
        | (go_at_call 23; refine (CP.out _).mono ?_; rintro e w1 ⟨rfl, hwy⟩; have hwz := hwy.symm; subst hwz; clear hwy)
        | (go_at_call 11; refine CC.out.mono ?_; rintro e w2 ⟨rfl, b2⟩))
      go_ret
      exact ⟨rfl, bel_tr HB.out b2⟩
    | false =>
      rw [hv, if_neg (by simp)] at hT
      subst hT
      have CC : Hid (Calls Tryz.prog 11 #[.int .i64 ep, .slice a n c] W1 fun e w' => e = .returned (.tuple #[.string ⟨#[]⟩, .bool false]) ∧ Below W1.heap.size W1 w') := refAcceptQ_no LW.out HE.out.2.1 ep n c HE.out.2.2.2 (fun e => by rw [(rtB_iff _ _).2 e] at hv; cases hv)
      clear hv
      go_wp2_with (first
        | (go_at_call 23; refine (CP.out _).mono ?_; rintro e w1 ⟨rfl, hwy⟩; have hwz := hwy.symm; subst hwz; clear hwy)
        | (go_at_call 11; refine CC.out.mono ?_; rintro e w2 ⟨rfl, b2⟩))
      go_ret
      exact ⟨rfl, bel_tr HB.out b2⟩
  all_goals try (
    rw [if_neg (by omega), if_neg (by omega), if_pos (by omega)] at hT
    cases hv : addR1 ⟨tx, d⟩ with
    | true =>
      rw [hv, if_pos rfl] at hT
      have CC : Hid (∀ W, Calls Tryz.prog 13 #[.int .i64 ep, .agg #[.int .i64 tx, .string d]] W fun e w' => e = .returned (.tuple #[.string T, .bool true]) ∧ Below W.heap.size W w') := fun W => refAddQ_yes ep HE.out.1.1 HE.out.1.2 ⟨tx, d⟩ hv W T hT
      clear hT hv
      go_wp2_with (first
        | (go_at_call 23; refine (CP.out _).mono ?_; rintro e w1 ⟨rfl, hwy⟩; have hwz := hwy.symm; subst hwz; clear hwy)
        | (go_at_call 13; refine (CC.out _).mono ?_; rintro e w2 ⟨rfl, b2⟩))
      go_ret
      exact ⟨rfl, bel_tr HB.out b2⟩
    | false =>
      rw [hv, if_neg (by simp)] at hT
      subst hT
      have CC : Hid (∀ W, Calls Tryz.prog 13 #[.int .i64 ep, .agg #[.int .i64 tx, .string d]] W fun e w' => e = .returned (.tuple #[.string ⟨#[]⟩, .bool false]) ∧ Below W.heap.size W w') := fun W => refAddQ_no ep ⟨tx, d⟩ HE.out.2.2.1 hv W
      clear hv
      go_wp2_with (first
        | (go_at_call 23; refine (CP.out _).mono ?_; rintro e w1 ⟨rfl, hwy⟩; have hwz := hwy.symm; subst hwz; clear hwy)
        | (go_at_call 13; refine (CC.out _).mono ?_; rintro e w2 ⟨rfl, b2⟩))
      go_ret
      exact ⟨rfl, bel_tr HB.out b2⟩)
  all_goals
    rw [if_neg (by omega), if_neg (by omega), if_neg (by omega)] at hT
    subst hT
    go_wp2_with (first
      | (go_at_call 23; refine (CP.out _).mono ?_; rintro e w1 ⟨rfl, hwy⟩; have hwz := hwy.symm; subst hwz; clear hwy))
    go_ret
    exact ⟨rfl, HB.out⟩

end Go.Proofs.YtfmhmokbbkliaaaGreat.Jrn

/- A node in a law's walk; the contract of tabulariumlaw15.examples. -/
namespace Go.Proofs.YtfmhmokbbkliaaaGreat.Jrn
open Go.RowKit Go.Proofs.YtfmhmokbbkliaaaGreat Go.Proofs.YtfmhmokbbkliaaaGreat.Wir Go.Proofs.YtfmhmokbbkliaaaGreat.Lgg Go.Proofs.YtfmhmokbbkliaaaGreat.Sep
set_option linter.unusedVariables false

theorem ans_small (e : Int) (ps : List ByteArray) : (ansT e ps).size ≤ maxLen := join_small
theorem hand_small (ds : DS) (j : Nd) (s : ByteArray) : (handQ ds j s).t.size ≤ maxLen := by
  unfold handQ
  split
  · exact ans_small _ _
  · split
    · exact ans_small _ _
    · exact ans_small _ _
theorem cel_nil {O : Nat → Prop} {w : World} {n c : Nat} {es : List En} {g : Option Nat} (h : Cel O w 2 (.slice none n c) n (rowC enC es) g) (hn : es.length = n) : es = [] := by
  obtain ⟨v, hv⟩ : ∃ v, Value.slice none n c = v := ⟨_, rfl⟩
  rw [hv] at h
  cases h with
  | nil h1 h2 h3 => exact List.eq_nil_of_length_eq_zero (by omega)
  | row => rename_i h1 _ _ _ _ _ _ _; rw [h1] at hv; cases hv

section
variable {w w1 : World} {O : Nat → Prop} {L M : List Th} {jp pd : Nat} {ds ds' : DS} {j j' : Nd}
theorem open_hz (h : Hz w O (dsk pd ds :: M) w1) (hq : openQ ds = (0, ds', j)) :
    Calls Tryz.prog 21 #[.pointer (some ⟨pd, 0, none⟩)] w1 fun e w' => ∃ jp, e = .returned (.tuple #[.pointer (some ⟨jp, 0, none⟩), .int .i64 0]) ∧ Hz w O (jr jp pd ds' j :: M) w' := by
  obtain ⟨O1, k1, k2, k3⟩ := h.out 0 rfl
  refine (open_val k1).mono fun e w' hR => ?_
  rw [hq] at hR
  obtain ⟨jp, h1, h2⟩ := hR.yes rfl
  exact ⟨jp, h1, k3 (jr jp pd ds' j) w' h2.done.1 h2.done.2⟩
theorem hand_hz (h : Hz w O L w1) (i : Nat) (hi : L[i]? = some (jr jp pd ds j)) (hj : NdOk j) (s : ByteArray) (hs : s.size ≤ maxLen) (q : Int) (hq : handE ds j s = q) (hj' : (handQ ds j s).j = j') (hd : (handQ ds j s).ds = ds') :
    Calls Tryz.prog 28 #[.pointer (some ⟨jp, 0, none⟩), .string s] w1 fun e w' => ∃ T : ByteArray, e = .returned (.string T) ∧ T.size ≤ maxLen ∧ (toldP T).2 = q ∧ Hz w O (L.set i (jr jp pd ds' j')) w' := by
  refine (h.act i hi (handle_acts hj s hs)).mono fun e w' ⟨h1, h2⟩ => ⟨_, h1, hand_small _ _ _, by rw [hand_err hj, hq], ?_⟩
  rw [hj', hd] at h2
  exact h2
theorem jr_get (h : Hz w O L w1) (i : Nat) (hi : L[i]? = some (jr jp pd ds j)) : ∃ (O1 : Nat → Prop) (a : Option Addr) (c : Nat) (g : Option Nat), w1.cell? ⟨jp, 1, none⟩ = some (.int .i64 j.p) ∧ w1.cell? ⟨jp, 2, none⟩ = some (.int .i64 j.l.ep) ∧ w1.cell? ⟨jp, 3, none⟩ = some (.slice a j.l.es.length c) ∧ w1.cell? ⟨jp, 4, none⟩ = some (.bool j.gone) ∧ Cel O1 w1 2 (.slice a j.l.es.length c) j.l.es.length (rowC enC j.l.es) g := by
  obtain ⟨O1, ⟨a, c, g⟩, hS⟩ := h.get i hi
  have hz : Hz w1 O1 (jrL jp pd ds j a c g) w1 := Hz.start hS
  obtain ⟨x0, x1, x2, x3, x4, fx⟩ := jr_cells hz
  obtain ⟨O3, hC⟩ := jr_row hz
  exact ⟨O3, a, c, g, x1, x2, x3, x4, hC⟩
theorem promised_hz (h : Hz w O L w1) (i : Nat) (hi : L[i]? = some (jr jp pd ds j)) :
    Calls Tryz.prog 39 #[.pointer (some ⟨jp, 0, none⟩)] w1 fun e w' => e = .returned (.int .i64 j.p) ∧ w' = w1 := by
  obtain ⟨O1, a, c, g, x1, x2, x3, x4, hC⟩ := jr_get h i hi
  exact promised_val x1
theorem dead_hz (h : Hz w O L w1) (i : Nat) (hi : L[i]? = some (jr jp pd ds j)) :
    Calls Tryz.prog 38 #[.pointer (some ⟨jp, 0, none⟩)] w1 fun e w' => e = .returned (.bool j.gone) ∧ w' = w1 := by
  obtain ⟨O1, a, c, g, x1, x2, x3, x4, hC⟩ := jr_get h i hi
  exact dead_val x4
theorem log_hz (h : Hz w O L w1) (i : Nat) (hi : L[i]? = some (jr jp pd ds j)) (hj : NdOk j) :
    Calls Tryz.prog 37 #[.pointer (some ⟨jp, 0, none⟩)] w1 fun e w' => LogC w1.heap.size j.l e w' ∧ Below w1.heap.size w1 w' := by
  obtain ⟨O1, a, c, g, x1, x2, x3, x4, hC⟩ := jr_get h i hi
  exact log_val x2 x3 (Lie.of_cel wideN hC) (fun e => by subst e; exact cel_nil hC rfl) rfl (by have := hj.log.2.1; omega)
end

theorem fldL (e : Int) (a : Option Addr) (n c : Nat) (w : World) : (Instr.field 34 (.agg #[.int .i64 e, .slice a n c]) 1).run Tryz.prog w = .ok (.slice a n c) w := by kernel_rfl

set_option maxRecDepth 100000 in
set_option maxHeartbeats 4000000 in
theorem examples15_val (w : World) : Calls Tryz.prog 9 #[] w fun e w' => e = .returned (.bool true) ∧ Below w.heap.size w w' := by
  have CP : Hid (∀ W, Calls Tryz.prog 17 #[.int .i64 1] W fun e w' => e = .returned (.string sP) ∧ Below W.heap.size W w') := fun W => promise_val 1 (by omega) (by omega) W _ rfl
  have CA : Hid (∀ W, Calls Tryz.prog 43 #[.int .i64 1, .slice none 0 0] W fun e w' => e = .returned (.string sA) ∧ Below W.heap.size W w') := accept15_val
  have CW : Hid (∀ W, Calls Tryz.prog 42 #[.int .i64 1, .int .i64 1, .string ⟨#[120]⟩] W fun e w' => e = .returned (.string sW) ∧ Below W.heap.size W w') := add15_val 1 (by omega) (by omega) 1 ⟨#[120]⟩ (by decide)
  have CY : Hid (∀ W, Calls Tryz.prog 42 #[.int .i64 1, .int .i64 3, .string ⟨#[121]⟩] W fun e w' => e = .returned (.string sY) ∧ Below W.heap.size W w') := add15_val 1 (by omega) (by omega) 3 ⟨#[121]⟩ (by decide)
  have SZ : Hid (sP.size ≤ maxLen ∧ sA.size ≤ maxLen ∧ sW.size ≤ maxLen ∧ sY.size ≤ maxLen) := ⟨join_small, join_small, join_small, join_small⟩
  have HN : Hid (∀ ds, openQ ds = openQ ds) := fun _ => rfl
  have EJ : Hid (handE D0 nd0 sP = 0 ∧ (handQ D0 nd0 sP).j = j1) := ex_j
  have EJ2 : Hid (∀ ds, handE ds j1 sP = 10 ∧ (handQ ds j1 sP).j = j1 ∧ (handQ ds j1 sP).ds = ds) := ex_j2
  have EJ3 : Hid (∀ ds, handE ds j1 sW = 10 ∧ (handQ ds j1 sW).j = j1 ∧ (handQ ds j1 sW).ds = ds) := ex_j3
  have EK : Hid (handE D0 nd0 sA = 0 ∧ (handQ D0 nd0 sA).j = k1 ∧ handE (handQ D0 nd0 sA).ds k1 sW = 0 ∧ (handQ (handQ D0 nd0 sA).ds k1 sW).j = k2) := ex_k
  have EK3 : Hid (∀ ds, handE ds k2 sY = 11 ∧ (handQ ds k2 sY).j = k2 ∧ (handQ ds k2 sY).ds = ds) := ex_k3
  have HO : Hid (openQ D0 = (0, D0, nd0)) := open_none 1000
  generalize sP = SP at *
  generalize sA = SA at *
  generalize sW = SW at *
  generalize sY = SY at *
  obtain ⟨e1, e2⟩ := EJ.out
  clear EJ HN
  generalize hd1 : (handQ D0 nd0 SP).ds = d1
  have HD1 : Hid ((handQ D0 nd0 SP).ds = d1) := hd1
  have EJ : Hid (handE D0 nd0 SP = 0 ∧ (handQ D0 nd0 SP).j = j1) := ⟨e1, e2⟩
  clear hd1 e1 e2
  obtain ⟨e1, e2, e3, e4⟩ := EK.out
  clear EK
  obtain ⟨d2, hd2⟩ : ∃ d2, (handQ D0 nd0 SA).ds = d2 := ⟨_, rfl⟩
  rw [hd2] at e3 e4
  obtain ⟨d3, hd3⟩ : ∃ d3, (handQ d2 k1 SW).ds = d3 := ⟨_, rfl⟩
  have EK : Hid ((handE D0 nd0 SA = 0 ∧ (handQ D0 nd0 SA).j = k1 ∧ (handQ D0 nd0 SA).ds = d2) ∧ (handE d2 k1 SW = 0 ∧ (handQ d2 k1 SW).j = k2 ∧ (handQ d2 k1 SW).ds = d3)) := ⟨⟨e1, e2, hd2⟩, ⟨e3, e4, hd3⟩⟩
  clear e1 e2 e3 e4 hd2 hd3
  have hst2 : ∀ (w : World) (a : Addr) (x : Option Addr) (n c : Nat) (m : Mode), (store a (.slice x n c) m).run Tryz.prog w = stored Tryz.prog w a (.slice x n c) m := fun w a x n c m => run_store (P := Tryz.prog) w a _ m rfl
  have hfl := fldL
  go_enter Tryz.func9, Tryz.ntmps9
  go_wp2_with fail
  refine (new_hz (hz_none w) 1000 1000 (by omega) (by omega)).mono ?_
  rintro e w1 ⟨dj, rfl, hz⟩
  have HZ1 : Hid (Hz w (fun _ => False) [dsk dj D0] w1) := hz
  clear hz
  go_wp2_with fail
  refine (open_hz HZ1.out HO.out).mono ?_
  rintro e w2 ⟨jp, rfl, hz⟩
  have HZ2 : Hid (Hz w (fun _ => False) [jr jp dj D0 nd0] w2) := hz
  clear hz HZ1
  go_wp2_with fail
  refine (new_hz HZ2.out 1000 1000 (by omega) (by omega)).mono ?_
  rintro e w3 ⟨dk, rfl, hz⟩
  have HZ3 : Hid (Hz w (fun _ => False) [dsk dk D0, jr jp dj D0 nd0] w3) := hz
  clear hz HZ2
  go_wp2_with fail
  refine (open_hz HZ3.out HO.out).mono ?_
  rintro e w4 ⟨kp, rfl, hz⟩
  have HZ4 : Hid (Hz w (fun _ => False) [jr kp dk D0 nd0, jr jp dj D0 nd0] w4) := hz
  clear hz HZ3
  go_wp2_with fail
  refine (CP.out _).mono ?_
  rintro e w5 ⟨rfl, b⟩
  have HZ5 : Hid (Hz w (fun _ => False) [jr kp dk D0 nd0, jr jp dj D0 nd0] w5) := HZ4.out.below b
  clear b HZ4
  go_wp2_with fail
  refine (hand_hz HZ5.out 1 rfl nd0_ok _ SZ.out.1 0 EJ.out.1 EJ.out.2 HD1.out).mono ?_
  rintro e w6 ⟨T, rfl, hT, hq, hz⟩
  have HZ6 : Hid (Hz w (fun _ => False) [jr kp dk D0 nd0, jr jp dj d1 j1] w6) := hz
  clear hz HZ5
  go_wp2_with fail
  refine (said_val T hT 0 hq _).mono ?_
  rintro e w7 ⟨rfl, b⟩
  have HZ7 : Hid (Hz w (fun _ => False) [jr kp dk D0 nd0, jr jp dj d1 j1] w7) := HZ6.out.below b
  clear b HZ6 hT hq
  go_wp2_with fail
  refine (CP.out _).mono ?_
  rintro e w8 ⟨rfl, b⟩
  have HZ8 : Hid (Hz w (fun _ => False) [jr kp dk D0 nd0, jr jp dj d1 j1] w8) := HZ7.out.below b
  clear b HZ7
  go_wp2_with fail
  refine (hand_hz HZ8.out 1 rfl j1_ok _ SZ.out.1 10 (EJ2.out d1).1 (EJ2.out d1).2.1 (EJ2.out d1).2.2).mono ?_
  rintro e w9 ⟨T, rfl, hT, hq, hz⟩
  have HZ9 : Hid (Hz w (fun _ => False) [jr kp dk D0 nd0, jr jp dj d1 j1] w9) := hz
  clear hz HZ8
  go_wp2_with fail
  refine (said_val T hT 10 hq _).mono ?_
  rintro e w10 ⟨rfl, b⟩
  have HZ10 : Hid (Hz w (fun _ => False) [jr kp dk D0 nd0, jr jp dj d1 j1] w10) := HZ9.out.below b
  clear b HZ9 hT hq
  go_wp2_with fail
  refine (CW.out _).mono ?_
  rintro e w11 ⟨rfl, b⟩
  have HZ11 : Hid (Hz w (fun _ => False) [jr kp dk D0 nd0, jr jp dj d1 j1] w11) := HZ10.out.below b
  clear b HZ10
  go_wp2_with fail
  refine (hand_hz HZ11.out 1 rfl j1_ok _ SZ.out.2.2.1 10 (EJ3.out d1).1 (EJ3.out d1).2.1 (EJ3.out d1).2.2).mono ?_
  rintro e w12 ⟨T, rfl, hT, hq, hz⟩
  have HZ12 : Hid (Hz w (fun _ => False) [jr kp dk D0 nd0, jr jp dj d1 j1] w12) := hz
  clear hz HZ11
  go_wp2_with fail
  refine (said_val T hT 10 hq _).mono ?_
  rintro e w13 ⟨rfl, b⟩
  have HZ13 : Hid (Hz w (fun _ => False) [jr kp dk D0 nd0, jr jp dj d1 j1] w13) := HZ12.out.below b
  clear b HZ12 hT hq
  go_wp2_with fail
  refine (CA.out _).mono ?_
  rintro e w14 ⟨rfl, b⟩
  have HZ14 : Hid (Hz w (fun _ => False) [jr kp dk D0 nd0, jr jp dj d1 j1] w14) := HZ13.out.below b
  clear b HZ13
  go_wp2_with fail
  refine (hand_hz HZ14.out 0 rfl nd0_ok _ SZ.out.2.1 0 EK.out.1.1 EK.out.1.2.1 EK.out.1.2.2).mono ?_
  rintro e w15 ⟨T, rfl, hT, hq, hz⟩
  have HZ15 : Hid (Hz w (fun _ => False) [jr kp dk d2 k1, jr jp dj d1 j1] w15) := hz
  clear hz HZ14
  go_wp2_with fail
  refine (said_val T hT 0 hq _).mono ?_
  rintro e w16 ⟨rfl, b⟩
  have HZ16 : Hid (Hz w (fun _ => False) [jr kp dk d2 k1, jr jp dj d1 j1] w16) := HZ15.out.below b
  clear b HZ15 hT hq
  go_wp2_with fail
  refine (CW.out _).mono ?_
  rintro e w17 ⟨rfl, b⟩
  have HZ17 : Hid (Hz w (fun _ => False) [jr kp dk d2 k1, jr jp dj d1 j1] w17) := HZ16.out.below b
  clear b HZ16
  go_wp2_with fail
  refine (hand_hz HZ17.out 0 rfl k1_ok _ SZ.out.2.2.1 0 EK.out.2.1 EK.out.2.2.1 EK.out.2.2.2).mono ?_
  rintro e w18 ⟨T, rfl, hT, hq, hz⟩
  have HZ18 : Hid (Hz w (fun _ => False) [jr kp dk d3 k2, jr jp dj d1 j1] w18) := hz
  clear hz HZ17
  go_wp2_with fail
  refine (said_val T hT 0 hq _).mono ?_
  rintro e w19 ⟨rfl, b⟩
  have HZ19 : Hid (Hz w (fun _ => False) [jr kp dk d3 k2, jr jp dj d1 j1] w19) := HZ18.out.below b
  clear b HZ18 hT hq
  go_wp2_with fail
  refine (CY.out _).mono ?_
  rintro e w20 ⟨rfl, b⟩
  have HZ20 : Hid (Hz w (fun _ => False) [jr kp dk d3 k2, jr jp dj d1 j1] w20) := HZ19.out.below b
  clear b HZ19
  go_wp2_with fail
  refine (hand_hz HZ20.out 0 rfl k2_ok _ SZ.out.2.2.2 11 (EK3.out d3).1 (EK3.out d3).2.1 (EK3.out d3).2.2).mono ?_
  rintro e w21 ⟨T, rfl, hT, hq, hz⟩
  have HZ21 : Hid (Hz w (fun _ => False) [jr kp dk d3 k2, jr jp dj d1 j1] w21) := hz
  clear hz HZ20
  go_wp2_with fail
  refine (said_val T hT 11 hq _).mono ?_
  rintro e w22 ⟨rfl, b⟩
  have HZ22 : Hid (Hz w (fun _ => False) [jr kp dk d3 k2, jr jp dj d1 j1] w22) := HZ21.out.below b
  clear b HZ21 hT hq
  go_wp2_with (first
    | (go_at_call 39; refine (promised_hz HZ22.out 1 rfl).mono ?_; rintro e w23 ⟨hx, hwy⟩; have hx2 : e = .returned (.int .i64 1) := hx; subst hx2; have hwz := hwy.symm; subst hwz; clear hwy)
    | (go_at_call 37; refine (log_hz HZ22.out 0 rfl k2_ok).mono ?_; rintro e w24 ⟨⟨a, c, g, hx, hC⟩, b⟩; have hx2 : e = .returned (.agg #[.int .i64 1, .slice a 1 c]) := hx; subst hx2; have HZ24 : Hid (Hz w (fun _ => False) [jr kp dk d3 k2, jr jp dj d1 j1] w24) := HZ22.out.below b; clear b hC))
  go_ret
  exact ⟨rfl, hz_bel HZ24.out⟩

end Go.Proofs.YtfmhmokbbkliaaaGreat.Jrn

/- The contract of tabulariumref15.Told. -/
namespace Go.Proofs.YtfmhmokbbkliaaaGreat.Jrn
open Go.RowKit Go.Proofs.YtfmhmokbbkliaaaGreat Go.Proofs.YtfmhmokbbkliaaaGreat.Wir Go.Proofs.YtfmhmokbbkliaaaGreat.Lgg
open Go.Proofs.YtfmhmokbbkliaaaGreat.Smm (bytes_ne)
set_option linter.unusedVariables false

theorem cat_next (xs : List ByteArray) (k : Nat) (h : k < xs.length) : catL (xs.take (k + 1)) = catL (xs.take k) ++ xs[k] := by
  refine Go.WideShapes.bytes_inj ?_
  rw [app_list]
  simp only [catL]
  rw [List.take_succ_eq_append_getElem h]
  simp only [List.map_append, List.map_cons, List.map_nil, List.flatten_append, List.flatten_cons, List.flatten_nil, List.append_nil]
theorem parse_none {b : ByteArray} (h : parseL b = none) : epochP b = none := by
  unfold parseL at h
  split at h
  · cases h
  · assumption
/-- A result that lies in a box of the call's own. -/
theorem res_box (w : World) (T : TypeId) (RB : Nat) (hRB : w.heap.size = RB) :
    (∀ W, Below (w.alloc (.cells #[.int .i64 0, .slice none 0 0] T)).heap.size (w.alloc (.cells #[.int .i64 0, .slice none 0 0] T)) W → W.cell? ⟨RB, 0, none⟩ = some (.int .i64 0) ∧ W.cell? ⟨RB, 1, none⟩ = some (.slice none 0 0) ∧ W.frozen? ⟨RB, 0, none⟩ = false ∧ W.frozen? ⟨RB, 1, none⟩ = false ∧ RB < W.heap.size) ∧
    ∀ (W : World) (ep : Int) (a : Option Addr) (n c : Nat) (es : List En) (g : Option Nat), es.length = n → Below (w.alloc (.cells #[.int .i64 0, .slice none 0 0] T)).heap.size (w.alloc (.cells #[.int .i64 0, .slice none 0 0] T)) W → Cel (fun q => RB < q) W 2 (.slice a n c) n (rowC enC es) g → ((W.setCell ⟨RB, 0, none⟩ (.int .i64 ep)).setCell ⟨RB, 1, none⟩ (.slice a n c)).cell? ⟨RB, 0, none⟩ = some (.int .i64 ep) ∧ ((W.setCell ⟨RB, 0, none⟩ (.int .i64 ep)).setCell ⟨RB, 1, none⟩ (.slice a n c)).cell? ⟨RB, 1, none⟩ = some (.slice a n c) ∧ Cel (fun q => w.heap.size ≤ q) ((W.setCell ⟨RB, 0, none⟩ (.int .i64 ep)).setCell ⟨RB, 1, none⟩ (.slice a n c)) 2 (.slice a es.length c) es.length (rowC enC es) g ∧ Below w.heap.size w ((W.setCell ⟨RB, 0, none⟩ (.int .i64 ep)).setCell ⟨RB, 1, none⟩ (.slice a n c)) := by
  subst hRB
  obtain ⟨q0, q1, f0, f1⟩ := cells2 w (.int .i64 0) (.slice none 0 0) T
  have B1 : Below w.heap.size w (w.alloc (.cells #[.int .i64 0, .slice none 0 0] T)) := bel_al _ _
  have hF : ∀ W, Below (w.alloc (.cells #[.int .i64 0, .slice none 0 0] T)).heap.size (w.alloc (.cells #[.int .i64 0, .slice none 0 0] T)) W → W.cell? ⟨w.heap.size, 0, none⟩ = some (.int .i64 0) ∧ W.cell? ⟨w.heap.size, 1, none⟩ = some (.slice none 0 0) ∧ W.frozen? ⟨w.heap.size, 0, none⟩ = false ∧ W.frozen? ⟨w.heap.size, 1, none⟩ = false ∧ w.heap.size < W.heap.size := fun W hb => ⟨bel_cell hb q0, bel_cell hb q1, (World.frozen?_of_block (a := ⟨w.heap.size, 0, none⟩) (hb.block w.heap.size (World.block_lt_of_cell? _ _ q0))).trans f0, (World.frozen?_of_block (a := ⟨w.heap.size, 1, none⟩) (hb.block w.heap.size (World.block_lt_of_cell? _ _ q0))).trans f1, World.block_lt_of_cell? _ _ (bel_cell hb q0)⟩
  refine ⟨hF, fun W ep a n c es g hn hb hC => ?_⟩
  subst hn
  obtain ⟨z0, z1⟩ := two_set (u' := .int .i64 ep) (v' := .slice a es.length c) (bel_cell hb q0) (bel_cell hb q1)
  have hs : Stay (fun q => q = w.heap.size) W ((W.setCell ⟨w.heap.size, 0, none⟩ (.int .i64 ep)).setCell ⟨w.heap.size, 1, none⟩ (.slice a es.length c)) := (stay_set W w.heap.size 0 _).then_same (stay_set _ w.heap.size 1 _)
  have hb2 := bel_tr B1 hb
  exact ⟨z0, z1, hC.stay hs.size (fun q hq => hs.block q (by rw [hq] at hC; exact hC.lt.1) (fun e => by rw [hq] at hC; have h9 : w.heap.size < q := hC.lt.2; omega)) (fun q hq => by have h9 : w.heap.size < q := hq; omega), hb2.trans (hs.below hb2.size (fun q hq => by omega))⟩

set_option maxRecDepth 100000 in
set_option maxHeartbeats 4000000 in
theorem refTold_any (s : ByteArray) (hs : s.size ≤ maxLen) (w : World) : Calls Tryz.prog 15 #[.string s] w fun e w' => LgE w.heap.size (refToldP s).1 (refToldP s).2 e w' ∧ Below w.heap.size w w' := by
  have hst2 : ∀ (w : World) (a : Addr) (x : Option Addr) (n c : Nat) (m : Mode), (store a (.slice x n c) m).run Tryz.prog w = stored Tryz.prog w a (.slice x n c) m := fun w a x n c m => run_store (P := Tryz.prog) w a _ m rfl
  have CS : Hid (∀ W, Calls Tryz.prog 52 #[.string s] W fun e w' => SplitEnds W.heap.size (.bool true) (.bool false) (splitL s) e w' ∧ Below W.heap.size W w') := fun W => refSplit_any s W hs
  obtain ⟨⟨l, er⟩, hP⟩ : ∃ x, refToldP s = x := ⟨_, rfl⟩
  rw [hP]
  obtain ⟨RB, hRB⟩ : ∃ RB, w.heap.size = RB := ⟨_, rfl⟩
  obtain ⟨f0', e0'⟩ := res_box w 34 RB hRB
  have F0 : Hid _ := f0'
  have EN : Hid _ := e0'
  clear f0' e0'
  have hz1 : (w.alloc (.cells #[.int .i64 0, .slice none 0 0] 34)).heap.size = w.heap.size + 1 := by simp
  have HS : Hid (s.size ≤ maxLen) := hs
  clear hs
  go_enter Tryz.func15, Tryz.ntmps15
  go_upto_region 1 with fail
  try simp only [hRB]
  generalize w.alloc (.cells #[.int .i64 0, .slice none 0 0] 34) = W1 at *
  have HZ1 : Hid (W1.heap.size = w.heap.size + 1 ∧ w.heap.size = RB) := ⟨hz1, hRB⟩
  clear hz1 hRB
  cases hsp : splitL s with
  | none =>
    rw [hsp] at CS
    have hr : (⟨l, er⟩ : Lg × Int) = (⟨0, []⟩, 2) := by rw [← hP]; unfold refToldP; rw [hsp]
    cases hr
    replace CS : Hid (∀ W, Calls Tryz.prog 52 #[.string s] W fun e w' => e = .returned (.tuple #[.slice none 0 0, .bool false]) ∧ Below W.heap.size W w') := CS
    clear hP hsp
    go_wp2_with fail
    refine (CS.out _).mono ?_
    rintro x w2 ⟨rfl, b2⟩
    obtain ⟨z0, z1, f0, f1, -⟩ := F0.out _ b2
    have B2 : Hid (Below W1.heap.size W1 w2) := b2
    clear b2
    go_wp2
    obtain ⟨k0, k1, k2, k3⟩ := EN.out _ 0 none 0 0 [] none rfl B2.out (.nil rfl rfl rfl)
    refine bodyPost_ret (v := .tuple #[.agg #[.int .i64 0, .slice none 0 0], .int .i64 2]) ?_ rfl ⟨⟨_, _, _, rfl, k2⟩, k3⟩
    simp only [results, Tryz.results15]
    simp [go_sem, k0, k1]
  | some ts =>
    rw [hsp] at CS
    replace CS : Hid (∀ W, Calls Tryz.prog 52 #[.string s] W fun e w' => (∃ v, e = .returned (.tuple #[v, .bool true]) ∧ w'.ownsRow W.heap.size 9 1 v ts.length (ts.map Value.string) ∧ ts.length ≤ 1000 ∧ ∀ x ∈ ts, x.size ≤ maxLen) ∧ Below W.heap.size W w') := CS
    have hsm4 := split_small hsp
    go_wp2_with fail
    refine (CS.out _).mono ?_
    rintro x w2 ⟨⟨v, rfl, ho, hl, hsm⟩, b2⟩
    obtain ⟨a, c, b, rfl, hn, hc, hS, -⟩ := own_strs ho hsm hl
    have B2 : Hid (Below W1.heap.size W1 w2) := b2
    obtain ⟨z0, z1, f0, f1, -⟩ := F0.out _ b2
    clear ho b2 CS hn
    cases ts with
    | nil =>
      have hr : (⟨l, er⟩ : Lg × Int) = (⟨0, []⟩, 2) := by rw [← hP]; unfold refToldP; rw [hsp]
      cases hr
      have hgd : decide ((0 : Int) < 1) = true := rfl
      simp only [List.length_nil]
      clear hP hsp hS hl hsm hsm4 hc
      go_wp2
      obtain ⟨k0, k1, k2, k3⟩ := EN.out _ 0 none 0 0 [] none rfl B2.out (.nil rfl rfl rfl)
      refine bodyPost_ret (v := .tuple #[.agg #[.int .i64 0, .slice none 0 0], .int .i64 2]) ?_ rfl ⟨⟨_, _, _, rfl, k2⟩, k3⟩
      simp only [results, Tryz.results15]
      simp [go_sem, k0, k1]
    | cons t rest =>
      obtain rfl := hS.addr (by simp)
      have c0 : w2.cell? ⟨b, 0, none⟩ = some (.string t) := hS.cell 0 (by simp)
      have hts := hsm t (by simp)
      obtain ⟨n, v, hnum, hcall⟩ := refNumber_val t hts
      have CN : Hid (∀ w, Calls Tryz.prog 53 #[.string t] w fun e w' => e = .returned (.tuple #[.int .i64 n, .bool v]) ∧ Below w.heap.size w w') := hcall
      have hPA : refAns s t rest = (l, er) := by rw [← hP]; unfold refToldP; rw [hsp]
      have HSS : Hid (Strs w2 (some ⟨b, 0, none⟩) b 0 (t :: rest)) := hS
      obtain ⟨N, hN⟩ : ∃ N, (t :: rest).length = N := ⟨_, rfl⟩
      rw [hN] at hl hc ⊢
      have hrl : rest.length + 1 = N := by simpa using hN
      have HN : Hid (rest.length + 1 = N) := hrl
      have HR4 : Hid (∀ x ∈ rest, x.size ≤ 4000) := fun x hx => hsm4 x (by simp [hx])
      have HTS : Hid (t.size ≤ maxLen) := hts
      have HSP : Hid (splitL s = some (t :: rest)) := hsp
      have hN1 : 1 ≤ N := by omega
      clear hP hsp hS hsm hsm4 hcall hN hts
      go_upto_region 5 with (go_at_call 53; refine (CN.out _).mono ?_; rintro x w3 ⟨rfl, b3⟩; have B3 : Hid (Below W1.heap.size W1 w3) := bel_tr B2.out b3; have HS3 : Hid (Strs w3 (some ⟨b, 0, none⟩) b 0 (t :: rest)) := HSS.out.below b3; clear b3 z0 z1 f0 f1 c0)
      obtain ⟨z0, z1, f0, f1, -⟩ := F0.out _ B3.out
      unfold refAns at hPA
      cases v with
      | false =>
        rw [hnum] at hPA
        have hr : (⟨l, er⟩ : Lg × Int) = (⟨0, []⟩, 2) := by rw [← hPA]; rfl
        cases hr
        clear hPA hnum hrl
        go_wp2
        obtain ⟨k0, k1, k2, k3⟩ := EN.out _ 0 none 0 0 [] none rfl B3.out (.nil rfl rfl rfl)
        refine bodyPost_ret (v := .tuple #[.agg #[.int .i64 0, .slice none 0 0], .int .i64 2]) ?_ rfl ⟨⟨_, _, _, rfl, k2⟩, k3⟩
        simp only [results, Tryz.results15]
        simp [go_sem, k0, k1]
      | true =>
        rw [hnum, if_pos rfl] at hPA
        simp only at hPA
        have hnn : numP t = some n := by rw [hnum, if_pos rfl]
        by_cases h0 : n < 0
        · rw [if_pos h0] at hPA
          cases hPA
          clear hnum hrl hnn
          go_wp2
          obtain ⟨k0, k1, k2, k3⟩ := EN.out _ 0 none 0 0 [] none rfl B3.out (.nil rfl rfl rfl)
          refine bodyPost_ret (v := .tuple #[.agg #[.int .i64 0, .slice none 0 0], .int .i64 2]) ?_ rfl ⟨⟨_, _, _, rfl, k2⟩, k3⟩
          simp only [results, Tryz.results15]
          simp [go_sem, k0, k1]
        · rw [if_neg h0] at hPA
          by_cases h14 : 14 < n
          · rw [if_pos h14] at hPA
            cases hPA
            clear hnum hrl hnn
            go_wp2
            obtain ⟨k0, k1, k2, k3⟩ := EN.out _ 0 none 0 0 [] none rfl B3.out (.nil rfl rfl rfl)
            refine bodyPost_ret (v := .tuple #[.agg #[.int .i64 0, .slice none 0 0], .int .i64 2]) ?_ rfl ⟨⟨_, _, _, rfl, k2⟩, k3⟩
            simp only [results, Tryz.results15]
            simp [go_sem, k0, k1]
          · rw [if_neg h14] at hPA
            by_cases hn0 : n = 0
            · subst hn0
              rw [if_neg (show ¬ ((0 : Int) ≠ 0 ∧ rest.length ≠ 0) from fun k => k.1 rfl)] at hPA
              by_cases hr0 : rest.length = 0
              · rw [if_pos (Or.inr hr0)] at hPA
                cases hPA
                obtain rfl : N = 1 := by omega
                clear hnum hrl hnn hr0
                go_wp2
                obtain ⟨k0, k1, k2, k3⟩ := EN.out _ 0 none 0 0 [] none rfl B3.out (.nil rfl rfl rfl)
                refine bodyPost_ret (v := .tuple #[.agg #[.int .i64 0, .slice none 0 0], .int .i64 0]) ?_ rfl ⟨⟨_, _, _, rfl, k2⟩, k3⟩
                simp only [results, Tryz.results15]
                simp [go_sem, k0, k1]
              · rw [if_neg (show ¬ ((0 : Int) ≠ 0 ∨ rest.length = 0) from fun k => k.elim (fun q => q rfl) hr0)] at hPA
                have hN2 : ¬ (N : Int) = 1 := by omega
                have hN3 : ((N : Int) == 1) = false := beq_eq_false_iff_ne.2 hN2
                have HPA : Hid (refLog s rest = (l, er)) := hPA
                clear hnum hrl hr0 hPA hnn
                go_wp2
                go_loopw [8, 9] (fun v8 v9 wr => ∃ j : Nat, 1 ≤ j ∧ j ≤ N ∧ v9 = .int .i64 j ∧ v8 = .string (catL (rest.take (j - 1))) ∧ Below w3.heap.size w3 wr) (fun _ v9 _ => N - (intOf v9).toNat)
                case atStart => exact ⟨1, by omega, hN1, rfl, rfl, Below.refl _ _⟩
                case round =>
                  obtain ⟨j, hj1, hjN, rfl, rfl, hb⟩ := hrel
                  have HB : Hid (Below w3.heap.size w3 wr) := hb
                  have B4 : Hid (Below W1.heap.size W1 wr) := bel_tr B3.out hb
                  clear hb z0 z1 f0 f1
                  by_cases hlt : j < N
                  · have hk : j - 1 < rest.length := by have := HN.out; omega
                    have cj : wr.cell? ⟨b, j, none⟩ = some (.string rest[j - 1]) := by
                      have h1 := (HS3.out.below HB.out).cell j (by simp; omega)
                      rw [Nat.zero_add] at h1
                      rw [h1]
                      congr 2
                      obtain ⟨i, rfl⟩ : ∃ i, j = i + 1 := ⟨j - 1, by omega⟩
                      simp
                    have hnx := cat_next rest (j - 1) hk
                    have hsz := cat_size (rest.take (j - 1)) (fun x hx => HR4.out x (List.mem_of_mem_take hx))
                    have hsz2 := HR4.out rest[j - 1] (List.getElem_mem hk)
                    have hln : (rest.take (j - 1)).length ≤ 1000 := by rw [List.length_take]; omega
                    rw [show j - 1 + 1 = j by omega] at hnx
                    have ha := fun (w : World) => run_string_add_sum (P := Tryz.prog) w (catL (rest.take (j - 1))) rest[j - 1] (by omega)
                    rw [← hnx] at ha
                    have HNX : Hid (catL (rest.take (j + 1 - 1)) = catL (rest.take j)) := by rw [Nat.add_sub_cancel]; exact rfl
                    clear hnx hsz hsz2 hln
                    generalize rest[j - 1] = y at *
                    generalize catL (rest.take (j - 1)) = X at *
                    generalize catL (rest.take j) = Y at *
                    go_wp2
                    go_roundw
                    case rel => exact ⟨j + 1, by omega, by omega, by go_num, by rw [HNX.out], HB.out⟩
                    case measure => simp [intOf]; omega
                  · obtain rfl : j = N := by omega
                    have hgd : decide ((j : Int) < (j : Int)) = false := decide_eq_false (by omega)
                    have hcat : catL (rest.take (j - 1)) = catL rest := by rw [List.take_of_length_le (by have := HN.out; omega)]
                    have hsz := cat_size rest HR4.out
                    rw [hcat]
                    have hXm : (catL rest).size ≤ maxLen := by have := HN.out; unfold maxLen; omega
                    have hPA2 := HPA.out
                    unfold refLog at hPA2
                    clear hlt hcat hsz HPA
                    generalize catL rest = X at *
                    cases hpp : parseL X with
                    | none =>
                      rw [hpp] at hPA2
                      cases hPA2
                      have CP : Hid (∀ W, Calls Tryz.prog 54 #[.string X] W fun e w' => e = .returned (.tuple #[.agg #[.int .i64 0, .slice none 0 0], .bool false, .bool false]) ∧ Below W.heap.size W w') := fun W => refParse_no X hXm (parse_none hpp) W
                      clear hpp hXm
                      go_upto_region 15 with (go_at_call 54; refine (CP.out _).mono ?_; rintro x w5 ⟨rfl, b5⟩; have B5 : Hid (Below W1.heap.size W1 w5) := bel_tr B4.out b5; clear b5)
                      have B6 : Hid (Below W1.heap.size W1 (w5.alloc (.cells #[.int .i64 0, .slice none 0 0] 34))) := bel_tr B5.out (bel_al _ _)
                      clear B5
                      generalize w5.alloc (.cells #[.int .i64 0, .slice none 0 0] 34) = w6 at *
                      obtain ⟨z0, z1, f0, f1, -⟩ := F0.out _ B6.out
                      go_wp2
                      obtain ⟨k0, k1, k2, k3⟩ := EN.out _ 0 none 0 0 [] none rfl B6.out (.nil rfl rfl rfl)
                      refine bodyPost_ret (v := .tuple #[.agg #[.int .i64 0, .slice none 0 0], .int .i64 2]) ?_ rfl ⟨⟨_, _, _, rfl, k2⟩, k3⟩
                      simp only [results, Tryz.results15]
                      simp [go_sem, k0, k1]
                    | some p =>
                      obtain ⟨⟨ep, es⟩, R⟩ := p
                      rw [hpp] at hPA2
                      simp only at hPA2
                      have hrt := parse_right hpp
                      obtain ⟨wh, hwh⟩ : ∃ wh, decide (R.size = 0) = wh := ⟨_, rfl⟩
                      obtain ⟨m, hm⟩ : ∃ m, es.length = m := ⟨_, rfl⟩
                      have CP : Hid (∀ W, Calls Tryz.prog 54 #[.string X] W fun e w' => (∃ a c g, e = .returned (.tuple #[.agg #[.int .i64 ep, .slice a m c], .bool wh, .bool true]) ∧ Cel (fun k => W.heap.size ≤ k) w' 2 (.slice a m c) m (rowC enC es) g) ∧ Below W.heap.size W w') := fun W => (refParse_yes X hXm _ R hpp wh hwh W).mono fun e w' ⟨⟨a, c, g, h1, h2⟩, h3⟩ => by
                        simp only [hm] at h1 h2
                        exact ⟨⟨a, c, g, h1, h2⟩, h3⟩
                      obtain ⟨J, hJ⟩ : ∃ J, ansT 0 (piecesL (encL ⟨ep, es⟩)) = J := ⟨_, rfl⟩
                      rw [hJ] at hPA2
                      have HM : Hid (es.length = m) := hm
                      have CTo : Hid (∀ (W : World) (a : Option Addr) (c : Nat) (g : Option Nat), Cel (fun q => RB < q) W 2 (.slice a m c) m (rowC enC es) g → Calls Tryz.prog 55 #[.agg #[.int .i64 ep, .slice a m c]] W fun e w' => e = .returned (.string J) ∧ Below W.heap.size W w') := fun W a c g hC => by
                        subst hm
                        exact ref15Told_val (Lie.of_cel wideN hC) ep es.length c rfl hrt J hJ
                      clear hpp hXm hrt hJ hm
                      go_upto_region 15 with (go_at_call 54; refine (CP.out _).mono ?_; rintro x w5 ⟨⟨pa, pc, pg, rfl, hC⟩, b5⟩; have B5 : Hid (Below W1.heap.size W1 w5) := bel_tr B4.out b5; have HC5 : Hid (Cel (fun k => wr.heap.size ≤ k) w5 2 (.slice pa m pc) m (rowC enC es) pg) := hC; clear b5 hC)
                      have B6 : Hid (Below W1.heap.size W1 (w5.alloc (.cells #[.int .i64 ep, .slice pa m pc] 34))) := bel_tr B5.out (bel_al _ _)
                      have HC6 : Hid (Cel (fun q => RB < q) (w5.alloc (.cells #[.int .i64 ep, .slice pa m pc] 34)) 2 (.slice pa m pc) m (rowC enC es) pg) := (HC5.out.below (bel_al _ _)).stay (Nat.le_refl _) (fun _ _ => rfl) (fun z hz => by have h9 : wr.heap.size ≤ z := hz; have := (F0.out _ B4.out).2.2.2.2; omega)
                      have y0 : (w5.alloc (.cells #[.int .i64 ep, .slice pa m pc] 34)).cell? ⟨w5.heap.size, 0, none⟩ = some (.int .i64 ep) := World.cell?_alloc_new w5 _ _ 0
                      have y1 : (w5.alloc (.cells #[.int .i64 ep, .slice pa m pc] 34)).cell? ⟨w5.heap.size, 1, none⟩ = some (.slice pa m pc) := World.cell?_alloc_new w5 _ _ 1
                      clear B5 HC5
                      generalize w5.alloc (.cells #[.int .i64 ep, .slice pa m pc] 34) = w6 at *
                      generalize w5.heap.size = YB at *
                      obtain ⟨z0, z1, f0, f1, -⟩ := F0.out _ B6.out
                      cases wh with
                      | false =>
                        have hR0 : ¬ R.size = 0 := of_decide_eq_false hwh
                        rw [if_neg hR0] at hPA2
                        cases hPA2
                        clear hwh
                        go_wp2
                        obtain ⟨k0, k1, k2, k3⟩ := EN.out _ 0 none 0 0 [] none rfl B6.out (.nil rfl rfl rfl)
                        refine bodyPost_ret (v := .tuple #[.agg #[.int .i64 0, .slice none 0 0], .int .i64 2]) ?_ rfl ⟨⟨_, _, _, rfl, k2⟩, k3⟩
                        simp only [results, Tryz.results15]
                        simp [go_sem, k0, k1]
                      | true =>
                        have hR0 : R.size = 0 := of_decide_eq_true hwh
                        rw [if_pos hR0] at hPA2
                        clear hwh hR0
                        by_cases hJs : J = s
                        · rw [if_pos hJs] at hPA2
                          cases hPA2
                          subst hJs
                          go_wp2_with (go_at_call 55; refine (CTo.out _ _ _ _ HC6.out).mono ?_; rintro x w7 ⟨rfl, b7⟩; have B7 : Hid (Below W1.heap.size W1 w7) := bel_tr B6.out b7; have HC7 : Hid (Cel (fun q => RB < q) w7 2 (.slice pa m pc) m (rowC enC es) pg) := HC6.out.below b7; have x0 := bel_cell b7 y0; have x1 := bel_cell b7 y1; clear b7 y0 y1 z0 z1 f0 f1 HC6 B6; obtain ⟨z0, z1, f0, f1, -⟩ := F0.out _ B7.out)
                          obtain ⟨k0, k1, k2, k3⟩ := EN.out _ ep pa m pc es pg HM.out B7.out HC7.out
                          refine bodyPost_ret (v := .tuple #[.agg #[.int .i64 ep, .slice pa m pc], .int .i64 0]) ?_ rfl ⟨⟨pa, pc, pg, by simp only [HM.out], k2⟩, k3⟩
                          simp only [results, Tryz.results15]
                          simp [go_sem, k0, k1]
                        · rw [if_neg hJs] at hPA2
                          cases hPA2
                          have hbe := bytes_ne hJs
                          go_wp2_with (go_at_call 55; refine (CTo.out _ _ _ _ HC6.out).mono ?_; rintro x w7 ⟨rfl, b7⟩; have B7 : Hid (Below W1.heap.size W1 w7) := bel_tr B6.out b7; have x0 := bel_cell b7 y0; have x1 := bel_cell b7 y1; clear b7 y0 y1 z0 z1 f0 f1 HC6 B6; obtain ⟨z0, z1, f0, f1, -⟩ := F0.out _ B7.out)
                          obtain ⟨k0, k1, k2, k3⟩ := EN.out _ 0 none 0 0 [] none rfl B7.out (.nil rfl rfl rfl)
                          refine bodyPost_ret (v := .tuple #[.agg #[.int .i64 0, .slice none 0 0], .int .i64 2]) ?_ rfl ⟨⟨_, _, _, rfl, k2⟩, k3⟩
                          simp only [results, Tryz.results15]
                          simp [go_sem, k0, k1]
            · have hne : (n != 0) = true := by simp [hn0]
              have hne2 : (n == 0) = false := beq_eq_false_iff_ne.2 hn0
              by_cases hr0 : rest.length = 0
              · rw [if_neg (show ¬ (n ≠ 0 ∧ rest.length ≠ 0) from fun k => k.2 hr0), if_pos (Or.inr hr0)] at hPA
                cases hPA
                obtain rfl : N = 1 := by omega
                clear hnum hrl hnn hr0
                go_wp2
                obtain ⟨k0, k1, k2, k3⟩ := EN.out _ 0 none 0 0 [] none rfl B3.out (.nil rfl rfl rfl)
                refine bodyPost_ret (v := .tuple #[.agg #[.int .i64 0, .slice none 0 0], .int .i64 er]) ?_ rfl ⟨⟨_, _, _, rfl, k2⟩, k3⟩
                simp only [results, Tryz.results15]
                simp [go_sem, k0, k1]
              · rw [if_pos (show n ≠ 0 ∧ rest.length ≠ 0 from ⟨hn0, hr0⟩)] at hPA
                cases hPA
                have hN2 : ¬ (N : Int) = 1 := by omega
                have hN3 : ((N : Int) == 1) = false := beq_eq_false_iff_ne.2 hN2
                clear hnum hrl hnn hr0
                go_wp2
                obtain ⟨k0, k1, k2, k3⟩ := EN.out _ 0 none 0 0 [] none rfl B3.out (.nil rfl rfl rfl)
                refine bodyPost_ret (v := .tuple #[.agg #[.int .i64 0, .slice none 0 0], .int .i64 2]) ?_ rfl ⟨⟨_, _, _, rfl, k2⟩, k3⟩
                simp only [results, Tryz.results15]
                simp [go_sem, k0, k1]

theorem refTold_val (s : ByteArray) (hs : s.size ≤ maxLen) (w : World) : Calls Tryz.prog 15 #[.string s] w fun e w' => LgE w.heap.size (toldP s).1 (toldP s).2 e w' ∧ Below w.heap.size w w' := by
  rw [← refTold_is s]; exact refTold_any s hs w
end Go.Proofs.YtfmhmokbbkliaaaGreat.Jrn
