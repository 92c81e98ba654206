/- Part 40 of the proof: JrnL3, JrnCp, JrnL4. -/
import Derived.Test.YtfmhmokbbkliaaaGreatB33
import Derived.Test.YtfmhmokbbkliaaaGreatB37
import Derived.Test.YtfmhmokbbkliaaaGreatB39

/- What the laws' walks need: a log that was told, laid beside the node; an earlier epoch asked for. -/
namespace Go.Proofs.YtfmhmokbbkliaaaGreat.Jrn
open Go.RowKit Go.Proofs.YtfmhmokbbkliaaaGreat Go.Proofs.YtfmhmokbbkliaaaGreat.Wir Go.Proofs.YtfmhmokbbkliaaaGreat.Lgg Go.Proofs.YtfmhmokbbkliaaaGreat.Sep
set_option linter.unusedVariables false

theorem put_cel {w w1 w2 : World} {O : Nat → Prop} {L : List Th} {k n : Nat} {sl : Value} {cs : List Value} {g : Option Nat} (h : Hz w O L w1) (hb : Below w1.heap.size w1 w2) (hC : Cel (fun q => w1.heap.size ≤ q) w2 k sl n cs g) : Hz w O (celT k sl n cs g :: L) w2 := by
  refine h.put hb ⟨?_, fun q hq => hq.2⟩
  cases hC with
  | nil h1 h2 h3 => exact .nil h1 h2 h3
  | row g cap h1 h2 h3 h4 h5 h6 h7 h8 => exact .row g cap h1 h2 ⟨h3, h4⟩ h4 h5 h6 h7 h8
theorem cel_lie {w w1 : World} {O : Nat → Prop} {L : List Th} {n : Nat} {sl : Option Addr} {c : Nat} {es : List En} {g : Option Nat} (h : Hz w O L w1) (i : Nat) (hi : L[i]? = some (celT 2 (.slice sl n c) n (rowC enC es) g)) (hn : es.length = n) : ∃ O1, Lie enC O1 w1 sl es := by
  subst hn
  obtain ⟨O1, k⟩ := h.get i hi
  exact ⟨O1, Lie.of_cel wideN k.1⟩

theorem late_ask {k ep : Int} {es : List En} {x : En} {raw : ByteArray} {r : Rq} (hk : keepN k % 8 ≤ 4) (h0 : -9223372036854775808 ≤ ep) (h1 : ep ≤ 9223372036854775807) (hr : readQ (askT k ep es x raw) = some r) : match r with | .prom e => e = ep | .acc e _ => e = ep | .add e _ => e = ep := by
  unfold askT at hr
  split at hr
  · rw [read_prom ep h0 h1] at hr
    split at hr
    · cases hr; rfl
    · cases hr
  · split at hr
    · split at hr
      · rename_i h2
        rw [read_acc ep es ((rtB_iff _ _).1 h2)] at hr
        split at hr
        · cases hr; rfl
        · cases hr
      · rw [read_small] at hr; cases hr
    · try rw [if_pos hk] at hr
      split at hr
      · rename_i h2
        rw [read_add ep h0 h1 x h2] at hr
        split at hr
        · cases hr; rfl
        · cases hr
      · rw [read_small] at hr; cases hr
theorem hand_old {ds : DS} {j : Nd} {k ep : Int} {es : List En} {x : En} {raw : ByteArray} (hg : j.gone = false) (hk : keepN k % 8 ≤ 4) (h0 : -9223372036854775808 ≤ ep) (h1 : ep ≤ 9223372036854775807) (hp : ep < j.p) : (handQ ds j (askT k ep es x raw)).j = j := by
  refine hand_late hg fun r hr => ?_
  have h := late_ask hk h0 h1 hr
  cases r <;> simp only at h ⊢ <;> omega

end Go.Proofs.YtfmhmokbbkliaaaGreat.Jrn

/- What JournalCopies asks: a promise on a node whose disk works; its log, accepted on an empty disk. -/
namespace Go.Proofs.YtfmhmokbbkliaaaGreat.Jrn
open Go.RowKit Go.Proofs.YtfmhmokbbkliaaaGreat Go.Proofs.YtfmhmokbbkliaaaGreat.Wir Go.Proofs.YtfmhmokbbkliaaaGreat.Lgg Go.Proofs.YtfmhmokbbkliaaaGreat.Sep
set_option linter.unusedVariables false

abbrev K0 : DS := ⟨400000, 0, false, []⟩
theorem dv_none : Dv 0 K0 nd0 := ⟨run_none _, fil_none 0, .inl ⟨rfl, rfl⟩, nd0_ok, rfl⟩
theorem wid_0 {ds : DS} (h : ds.fuse = 0) : Wid 0 ds := ⟨by omega, fun e => absurd h e⟩
/-- Without a fuse. -/
theorem dv_hand {ds : DS} {j : Nd} (h : Dv 0 ds j) (hf : ds.fuse = 0) (s : ByteArray) : Dv 0 (handQ ds j s).ds (handQ ds j s).j ∧ (handQ ds j s).ds.fuse = 0 := by
  rcases hand_res (wid_0 hf) h s with ⟨k1, k2⟩ | ⟨k1, _⟩
  · exact ⟨k1, k2 hf⟩
  · exact absurd hf k1
theorem prom_on {ds : DS} {j : Nd} (h : Dv 0 ds j) (hf : ds.fuse = 0) {ep : Int} (he : epR ep = true) (hlt : ¬ ep ≤ j.p) : (promQ ds j ep).e = 0 := by
  have ht := enc_top h.ok.log
  have hll := h.lg.len h.ok.log
  obtain ⟨e, ds', hq, hw⟩ := sto_pr h.run h.fil he (by omega)
  rcases hw with ⟨rfl, k1, _⟩ | ⟨rfl, k1, _⟩
  · unfold promQ; rw [if_neg hlt, hq]; rfl
  · exact absurd hf k1.f0
theorem fresh_on {ds : DS} {j : Nd} (h : Dv 0 ds j) (hf : ds.fuse = 0) {ep : Int} {es : List En} (he : RtL ⟨ep, es⟩) : (fresh ds j ep es).e = 0 ∧ (fresh ds j ep es).j = ⟨j.p, ⟨ep, es⟩, j.gone⟩ := by
  have ht := enc_top h.ok.log
  have ht2 := enc_top he
  have hll := h.lg.len h.ok.log
  obtain ⟨e, ds', hq, hw⟩ := sto_lg h.run h.fil he (by omega) (fun e => absurd hf e)
  rcases hw with ⟨rfl, k1, _⟩ | ⟨rfl, k1, _⟩
  · unfold fresh; rw [hq]; exact ⟨rfl, rfl⟩
  · exact absurd hf k1.f0
/-- A promise that is refused. -/
theorem copy_no {ds : DS} {j : Nd} (h : Dv 0 ds j) (hf : ds.fuse = 0) {ep : Int} (h0 : -9223372036854775808 ≤ ep) (h1 : ep ≤ 9223372036854775807) (hq : handE ds j (joinT [pT, numT ep]) ≠ 0) : ep ≤ (handQ ds j (joinT [pT, numT ep])).j.p ∨ 9007199254740991 < ep := by
  have hr := read_prom ep h0 h1
  have hg : ¬ j.gone = true := by rw [h.alive]; simp
  by_cases he : epR ep = true
  · rw [if_pos he] at hr
    obtain ⟨a, b, c⟩ := hand_of (ds := ds) h.alive hr
    rw [c]
    rw [a] at hq
    change (promQ ds j ep).e ≠ 0 at hq
    show ep ≤ (promQ ds j ep).j.p ∨ _
    by_cases hle : ep ≤ j.p
    · unfold promQ; rw [if_pos hle]; exact .inl hle
    · exact absurd (prom_on h hf he hle) hq
  · rw [if_neg he] at hr
    have e : (handQ ds j (joinT [pT, numT ep])).j = j := by unfold handQ; rw [if_neg hg, hr]
    rw [e]
    have hp := ep_in h.ok.p
    rw [epR_iff] at he
    unfold maxN at he
    omega
/-- A promise that is made: what is told, what it asks of another one. -/
theorem copy_yes {ds : DS} {j : Nd} (h : Dv 0 ds j) {ep : Int} (h0 : -9223372036854775808 ≤ ep) (h1 : ep ≤ 9223372036854775807) (hq : handE ds j (joinT [pT, numT ep]) = 0) :
    toldP (handQ ds j (joinT [pT, numT ep])).t = (j.l, 0) ∧ (handQ ds j (joinT [pT, numT ep])).j = ⟨ep, j.l, false⟩ ∧ RtL ⟨ep, j.l.es⟩ ∧ handE K0 nd0 (joinT (accTs ep j.l.es)) = 0 ∧ (handQ K0 nd0 (joinT (accTs ep j.l.es))).j = ⟨ep, ⟨ep, j.l.es⟩, false⟩ := by
  obtain ⟨he, hr, _, _, hj⟩ := hand_prom h0 h1 hq
  have hT := hand_log h.ok hr hq
  rw [hj] at hT
  have hrt : RtL ⟨ep, j.l.es⟩ := ⟨epR_ok he, h.ok.log.2⟩
  refine ⟨hT, hj, hrt, ?_⟩
  have hra := read_acc ep j.l.es hrt
  rw [if_pos he] at hra
  obtain ⟨a, b, c⟩ := hand_of (ds := K0) (j := nd0) rfl hra
  rw [a, c]
  have hep := (epR_iff ep).1 he
  have hp0 : (promQ K0 nd0 ep).e = 0 := prom_on dv_none rfl he (by show ¬ ep ≤ 0; omega)
  have hon := promQ_on (ds := K0) (j := nd0) rfl hp0
  have e : doQ K0 nd0 (.acc ep j.l.es) = fresh (promQ K0 nd0 ep).ds (promQ K0 nd0 ep).j ep j.l.es := by
    show accQ K0 nd0 ep j.l.es = _
    unfold accQ
    rw [if_neg (by show ¬ ep < 0; omega), if_neg (by show ¬ ep = 0; omega), if_pos (by show 0 < ep; omega), if_pos hp0]
  rw [e]
  rcases prom_res (wid_0 rfl) dv_none he with ⟨k1, k2⟩ | ⟨k1, _⟩
  · obtain ⟨m1, m2⟩ := fresh_on k1 (k2 rfl) hrt
    rw [m1, m2, hon]
    exact ⟨rfl, rfl⟩
  · exact absurd rfl k1

theorem hand_hzT {w w1 : World} {O : Nat → Prop} {L : List Th} {jp pd : Nat} {ds ds' : DS} {j j' : Nd} (h : Hz w O L w1) (i : Nat) (hi : L[i]? = some (jr jp pd ds j)) (hj : NdOk j) (s : ByteArray) (hs : s.size ≤ maxLen) (T : ByteArray) (hT : (handQ ds j s).t = T) (hj' : (handQ ds j s).j = j') (hd : (handQ ds j s).ds = ds') :
    Calls Tryz.prog 28 #[.pointer (some ⟨jp, 0, none⟩), .string s] w1 fun e w' => e = .returned (.string T) ∧ Hz w O (L.set i (jr jp pd ds' j')) w' := by
  refine (h.act i hi (handle_acts hj s hs)).mono fun e w' ⟨h1, h2⟩ => ?_
  rw [hj', hd] at h2
  rw [hT] at h1
  exact ⟨h1, h2⟩
end Go.Proofs.YtfmhmokbbkliaaaGreat.Jrn

/- A node in a law's walk: the power of its disk goes, a crash. -/
namespace Go.Proofs.YtfmhmokbbkliaaaGreat.Jrn
open Go.RowKit Go.Proofs.YtfmhmokbbkliaaaGreat Go.Proofs.YtfmhmokbbkliaaaGreat.Wir Go.Proofs.YtfmhmokbbkliaaaGreat.Lgg Go.Proofs.YtfmhmokbbkliaaaGreat.Sep
set_option linter.unusedVariables false

theorem dv_noneN (N : Nat) : Dv N ⟨400000, 0, false, []⟩ nd0 := ⟨run_none _, fil_none N, .inl ⟨rfl, rfl⟩, nd0_ok, rfl⟩
section
variable {w w1 : World} {O : Nat → Prop} {M : List Th} {jp pd : Nat} {ds ds' : DS} {j : Nd}
theorem fuse_hz (h : Hz w O (jr jp pd ds j :: M) w1) (n f : Int) (hn : -9223372036854775808 ≤ n ∧ n < 9223372036854775808) (hf : max n 0 = f) (hd : ({ ds with fuse := f } : DS) = ds') :
    Calls Tryz.prog 24 #[.pointer (some ⟨pd, 0, none⟩), .int .i64 n] w1 fun e w' => e = .returned (.tuple #[]) ∧ Hz w O (jr jp pd ds' j :: M) w' := by
  obtain ⟨a, c, g, h⟩ := jr_open h
  refine (h.act (T := dsk pd ds) (T' := dsk pd ds') 1 rfl (dsk_acts fun w0 K hk => ?_)).mono fun e w' ⟨h1, h2⟩ => ⟨h1, jr_fold (a := a) (c := c) (g := g) h2⟩
  rw [← hd]
  exact dk_fuse hk n f hn hf
theorem down_hz (h : Hz w O (jr jp pd ds j :: M) w1) (v : Bool) (hv : ds.down = v) :
    Calls Tryz.prog 36 #[.pointer (some ⟨pd, 0, none⟩)] w1 fun e w' => e = .returned (.bool v) ∧ w' = w1 := by
  obtain ⟨a, c, g, h⟩ := jr_open h
  obtain ⟨O1, k1⟩ := h.get (T := dsk pd ds) 1 rfl
  exact down_val k1 v hv
end
theorem crash_hz {w w1 : World} {M : List Th} {jp pd : Nat} {ds ds' : DS} {j : Nd} (h : Hz w (fun _ => False) (jr jp pd ds j :: M) w1) (ka : Option Addr) (kb koff kcap m : Nat) (ks : List Int) (hm : ks.length = m) (hmx : m ≤ maxLen) (hI : Ints w .i64 ka kb koff ks) (hks : ∀ k ∈ ks, -9223372036854775808 ≤ k ∧ k ≤ 9223372036854775807) (hd : (⟨ds.room, 0, false, crashL ks ds.S⟩ : DS) = ds') :
    Calls Tryz.prog 26 #[.pointer (some ⟨pd, 0, none⟩), .slice ka m kcap] w1 fun e w' => e = .returned (.tuple #[]) ∧ Hz w (fun _ => False) (dsk pd ds' :: M) w' := by
  obtain ⟨a, c, g, h⟩ := jr_open h
  obtain ⟨O1, k1, k2, k3⟩ := h.stars.out (T := dsk pd ds) 1 rfl
  have hl := (dsk pd ds).lt k1
  refine (crash_val k1 ka kb koff kcap m ks hm hmx (hI.below (hz_bel h)) (fun hp e => ?_) hks).mono fun e w' ⟨e1, e2, e3⟩ => ⟨e1, ?_⟩
  · have h1 := hI.lt (by omega)
    rcases k2 kb e with q | q
    · exact q
    · omega
  · rw [hd] at e2
    have h4 := h.of (k3 (dsk pd ds') w' (dat_wide e2 (fun k hk => .inl hk) (grow_lt hl e3.size)) e3)
    exact (h4.erase 2).erase 0
/-- Nothing is a row, too. -/
theorem put_nil {w w1 : World} {O : Nat → Prop} {L : List Th} (h : Hz w O L w1) : Hz w O (celT 2 (.slice none 0 0) 0 (rowC enC []) none :: L) w1 := h.put (Below.refl _ _) ⟨.nil rfl rfl rfl, fun q hq => hq.2⟩
end Go.Proofs.YtfmhmokbbkliaaaGreat.Jrn
