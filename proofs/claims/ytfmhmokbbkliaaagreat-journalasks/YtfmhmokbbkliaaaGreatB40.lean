/- Part 40 of the proof: JrnL3, JrnA4. -/
import Derived.Test.YtfmhmokbbkliaaaGreatB37
import Derived.Test.YtfmhmokbbkliaaaGreatB39

/- What the laws' walks need: a log that was told, laid beside the node; an earlier epoch asked for. -/
namespace Go.Proofs.YtfmhmokbbkliaaaGreat.Jrn
open Go.RowKit Go.Proofs.YtfmhmokbbkliaaaGreat Go.Proofs.YtfmhmokbbkliaaaGreat.Wir Go.Proofs.YtfmhmokbbkliaaaGreat.Lgg Go.Proofs.YtfmhmokbbkliaaaGreat.Sep
set_option linter.unusedVariables false

theorem put_cel {w w1 w2 : World} {O : Nat → Prop} {L : List Th} {k n : Nat} {sl : Value} {cs : List Value} {g : Option Nat} (h : Hz w O L w1) (hb : Below w1.heap.size w1 w2) (hC : Cel (fun q => w1.heap.size ≤ q) w2 k sl n cs g) : Hz w O (celT k sl n cs g :: L) w2 := by
  refine h.put hb ⟨?_, fun q hq => hq.2⟩
  cases hC with
  | nil h1 h2 h3 => exact .nil h1 h2 h3
  | row g cap h1 h2 h3 h4 h5 h6 h7 h8 => exact .row g cap h1 h2 ⟨h3, h4⟩ h4 h5 h6 h7 h8
theorem cel_lie {w w1 : World} {O : Nat → Prop} {L : List Th} {n : Nat} {sl : Option Addr} {c : Nat} {es : List En} {g : Option Nat} (h : Hz w O L w1) (i : Nat) (hi : L[i]? = some (celT 2 (.slice sl n c) n (rowC enC es) g)) (hn : es.length = n) : ∃ O1, Lie enC O1 w1 sl es := by
  subst hn
  obtain ⟨O1, k⟩ := h.get i hi
  exact ⟨O1, Lie.of_cel wideN k.1⟩

theorem late_ask {k ep : Int} {es : List En} {x : En} {raw : ByteArray} {r : Rq} (hk : keepN k % 8 ≤ 4) (h0 : -9223372036854775808 ≤ ep) (h1 : ep ≤ 9223372036854775807) (hr : readQ (askT k ep es x raw) = some r) : match r with | .prom e => e = ep | .acc e _ => e = ep | .add e _ => e = ep := by
  unfold askT at hr
  split at hr
  · rw [read_prom ep h0 h1] at hr
    split at hr
    · cases hr; rfl
    · cases hr
  · split at hr
    · split at hr
      · rename_i h2
        rw [read_acc ep es ((rtB_iff _ _).1 h2)] at hr
        split at hr
        · cases hr; rfl
        · cases hr
      · rw [read_small] at hr; cases hr
    · try rw [if_pos hk] at hr
      split at hr
      · rename_i h2
        rw [read_add ep h0 h1 x h2] at hr
        split at hr
        · cases hr; rfl
        · cases hr
      · rw [read_small] at hr; cases hr
theorem hand_old {ds : DS} {j : Nd} {k ep : Int} {es : List En} {x : En} {raw : ByteArray} (hg : j.gone = false) (hk : keepN k % 8 ≤ 4) (h0 : -9223372036854775808 ≤ ep) (h1 : ep ≤ 9223372036854775807) (hp : ep < j.p) : (handQ ds j (askT k ep es x raw)).j = j := by
  refine hand_late hg fun r hr => ?_
  have h := late_ask hk h0 h1 hr
  cases r <;> simp only at h ⊢ <;> omega

end Go.Proofs.YtfmhmokbbkliaaaGreat.Jrn

/- Entries, an entry that came in, opened; requests, made by the program and by the reference. -/
namespace Go.Proofs.YtfmhmokbbkliaaaGreat.Jrn
open Go.ChangeShapes Go.WideShapes Go.ChangeAt Go.RowKit Go.Proofs.YtfmhmokbbkliaaaGreat Go.Proofs.YtfmhmokbbkliaaaGreat.Wir Go.Proofs.YtfmhmokbbkliaaaGreat.Lgg
set_option linter.unusedVariables false

section
variable {H : Type} {enc : TypeId × Value → H} {W : World} {base : Nat} {spare : Nat → Bool} {held : Bool}
theorem open_ens {a : Option Addr} {len cap : Nat} {d : DataW H} {ps : List MemPlace} (h : DataW.Trod enc Tryz.prog W base spare held 22 (.slice a len cap) d ps) : ∃ es : List En, es.length = len ∧ LgIn W a es := by
  obtain ⟨fuel, hf⟩ := h
  obtain ⟨a', m, c, es, e, hm, hL⟩ := open_ensT hf
  simp only [Value.slice.injEq] at e
  obtain ⟨rfl, rfl, rfl⟩ := e
  exact ⟨es, hm, hL⟩
set_option maxRecDepth 100000 in
theorem open_entry {v : Value} {d : DataW H} {ps : List MemPlace} {r : Reach} {b0 : Nat} (hval : Value.okWide Tryz.prog W r b0 24 v) (h : DataW.Trod enc Tryz.prog W base spare held 24 v d ps) : ∃ x : En, v = .agg #[.int .i64 x.tx, .string x.d] ∧ x.d.size ≤ maxLen ∧ -9223372036854775808 ≤ x.tx ∧ x.tx ≤ 9223372036854775807 := by
  obtain ⟨cs, rfl, hsz⟩ := okWide_struct Tryz.underlying24 hval
  obtain ⟨fuel, hf⟩ := h
  have c2 : Tryz.prog.cellsOf 24 = 2 := by kernel_rfl
  rw [c2] at hsz
  match cs, hsz with
  | ⟨[v0, v1]⟩, _ =>
    have hf2 : DataW.trod enc Tryz.prog W base spare held fuel 24 [v0, v1] = some (d, ps) := hf
    obtain ⟨x, e, k⟩ := open_enB hf2
    simp [enC] at e
    obtain ⟨rfl, rfl⟩ := e
    exact ⟨x, rfl, k⟩
end

theorem acc_both {w : World} {a : Option Addr} {es : List En} (hL : LgIn w a es) (ep : Int) (n c : Nat) (hn : es.length = n) : ∃ (A : ByteArray) (q : Int) (ok : Bool), ((q = 0 ∧ ok = true) ∨ (q = 1 ∧ ok = false)) ∧
    (∀ W, Below w.heap.size w W → Calls Tryz.prog 10 #[.int .i64 ep, .slice a n c] W fun e w' => e = .returned (.tuple #[.string A, .int .i64 q]) ∧ Below W.heap.size W w') ∧
    ∀ W, Below w.heap.size w W → Calls Tryz.prog 11 #[.int .i64 ep, .slice a n c] W fun e w' => e = .returned (.tuple #[.string A, .bool ok]) ∧ Below W.heap.size W w' := by
  by_cases hR : RtL ⟨ep, es⟩
  · exact ⟨_, 0, true, .inl ⟨rfl, rfl⟩, fun W hb => accept_yes (hL.row.below hb) ep n c hn hR _ rfl, fun W hb => refAcceptQ_yes (hL.row.below hb) ep n c hn hR _ rfl⟩
  · exact ⟨_, 1, false, .inr ⟨rfl, rfl⟩, fun W hb => accept_no (hL.row.below hb) hL.small ep n c hn hR, fun W hb => refAcceptQ_no (hL.row.below hb) hL.small ep n c hn hR⟩
theorem add_both (ep : Int) (h0 : -9223372036854775808 ≤ ep) (h1 : ep ≤ 9223372036854775807) (x : En) (hs : x.d.size ≤ maxLen) : ∃ (A : ByteArray) (q : Int) (ok : Bool), ((q = 0 ∧ ok = true) ∨ (q = 1 ∧ ok = false)) ∧
    (∀ W, Calls Tryz.prog 12 #[.int .i64 ep, .agg #[.int .i64 x.tx, .string x.d]] W fun e w' => e = .returned (.tuple #[.string A, .int .i64 q]) ∧ Below W.heap.size W w') ∧
    ∀ W, Calls Tryz.prog 13 #[.int .i64 ep, .agg #[.int .i64 x.tx, .string x.d]] W fun e w' => e = .returned (.tuple #[.string A, .bool ok]) ∧ Below W.heap.size W w' := by
  cases hv : addR1 x with
  | true => exact ⟨_, 0, true, .inl ⟨rfl, rfl⟩, fun W => add_yes ep h0 h1 x hv W _ rfl, fun W => refAddQ_yes ep h0 h1 x hv W _ rfl⟩
  | false => exact ⟨_, 1, false, .inr ⟨rfl, rfl⟩, fun W => add_no ep x hs hv W, fun W => refAddQ_no ep x hs hv W⟩
theorem told_both (s : ByteArray) (hs : s.size ≤ maxLen) : ∃ (le er : Int) (ls : List En) (m : Nat), ls.length = m ∧
    (∀ W, Calls Tryz.prog 14 #[.string s] W fun e w' => (∃ a c g, e = .returned (.tuple #[.agg #[.int .i64 le, .slice a m c], .int .i64 er]) ∧ Cel (fun q => W.heap.size ≤ q) w' 2 (.slice a m c) m (rowC enC ls) g) ∧ Below W.heap.size W w') ∧
    ∀ W, Calls Tryz.prog 15 #[.string s] W fun e w' => (∃ a c g, e = .returned (.tuple #[.agg #[.int .i64 le, .slice a m c], .int .i64 er]) ∧ Cel (fun q => W.heap.size ≤ q) w' 2 (.slice a m c) m (rowC enC ls) g) ∧ Below W.heap.size W w' := by
  refine ⟨(toldP s).1.ep, (toldP s).2, (toldP s).1.es, _, rfl, fun W => ?_, fun W => ?_⟩
  · exact (told_val s hs W).mono fun e w' ⟨⟨a, c, g, h1, h2⟩, h3⟩ => ⟨⟨a, c, g, h1, h2⟩, h3⟩
  · exact (refTold_val s hs W).mono fun e w' ⟨⟨a, c, g, h1, h2⟩, h3⟩ => ⟨⟨a, c, g, h1, h2⟩, h3⟩
end Go.Proofs.YtfmhmokbbkliaaaGreat.Jrn
