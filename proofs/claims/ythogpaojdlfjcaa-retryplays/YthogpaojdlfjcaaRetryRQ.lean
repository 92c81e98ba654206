/- The contract of tabulariumref13.Put, in one. -/
import Derived.Test.YthogpaojdlfjcaaRetryR7
import Derived.Test.YthogpaojdlfjcaaRetryR8
import Derived.Test.YthogpaojdlfjcaaRetryRP
namespace Go.Proofs.Ythogpaojdlfjcaa.Rty
open Go.RowKit Go.Proofs.Ythogpaojdlfjcaa Go.Proofs.Ythogpaojdlfjcaa.Edi
set_option linter.unusedVariables false

theorem RAt.same {w0 : World} {O : Nat → Prop} {w w' : World} {xb : Nat} {R : List Rc} (h : RAt w0 O w xb R) (hb : Below w.heap.size w w') : RAt w0 (Grow O w w') w' xb R ∧ Stay O w w' :=
  ⟨(h.below hb).wide (fun k hk => .inl hk) (fun k hk => hk.elim (fun e => Nat.lt_of_lt_of_le (h.lt k e) hb.size) (fun e => e.2)), Stay.of_below hb⟩

theorem refPut_any {w0 : World} {O : Nat → Prop} {w : World} {xb : Nat} {R : List Rc} (h : RAt w0 O w xb R) (hle : R.length ≤ 20) (hb0 : Below w0.heap.size w0 w) (hA : Apart (R.map absR)) {e : Ed} {a : Option Addr} {m q : Nat} {x : Ans} {s : Sls} (he : Nm w0 a m e.ls ∧ AnIn (fun b => b < w0.heap.size) w0 x s) {c k er : Int} {A' : CL} (hp : PutE (R.map absR) c k e x er A') :
    Calls Try.prog 8 #[.pointer (some ⟨xb, 0, none⟩), .int .i64 c, .int .i64 k, edV e a m q, anV x s] w fun y w' => y = .returned (.int .i64 er) ∧ (∃ R', R'.map absR = A' ∧ RAt w0 (Grow O w w') w' xb R') ∧ Stay O w w' := by
  cases hp with
  | arg hbad =>
    refine (refPut_arg (he.1.below hb0) hbad).mono ?_
    rintro y w' ⟨rfl, hb⟩
    exact ⟨rfl, ⟨R, rfl, (h.same hb).1⟩, (h.same hb).2⟩
  | state p hr hc hk hl hne =>
    subst hc hk
    obtain ⟨res, hw⟩ := where_ex R e.c e.l
    rcases where_look hw with ⟨i, hi, rfl, hlk⟩ | ⟨_, hlk⟩
    · rw [hl] at hlk
      have hpe : p = absR R[i] := Option.some.inj hlk
      refine (refPut_state h hle hb0 hr he hi hw (fun hv => hne (by rw [hpe]; exact hv))).mono ?_
      rintro y w' ⟨rfl, hb⟩
      exact ⟨rfl, ⟨R, rfl, (h.same hb).1⟩, (h.same hb).2⟩
    · rw [hl] at hlk; cases hlk
  | ok hr hc hk hl =>
    subst hc hk
    obtain ⟨res, hw⟩ := where_ex R e.c e.l
    rcases where_look hw with ⟨i, hi, rfl, hlk⟩ | ⟨rfl, hlk⟩
    · have hed : R[i].ed = e := hl _ hlk
      refine (refPut_again h hle hb0 hr he hi hw hed).mono ?_
      rintro y w' ⟨rfl, ⟨R', e1, h1⟩, h2⟩
      refine ⟨rfl, ⟨R', ?_, h1⟩, h2⟩
      rw [e1]
      unfold putA putA0
      rw [part_filter hi hA ⟨by rw [hed], by rw [hed]⟩, List.map_append (l₂ := [_])]
      rfl
    · refine (refPut_new h hle hb0 hr he hw).mono ?_
      rintro y w' ⟨rfl, ⟨R', e1, h1⟩, h2⟩
      refine ⟨rfl, ⟨R', ?_, h1⟩, h2⟩
      have hall : (R.map absR).filter (fun p => !isA e.c e.l p) = R.map absR := by
        refine List.filter_eq_self.2 (fun p hp => ?_)
        cases hh : isA e.c e.l p with
        | false => rfl
        | true => exact absurd hh (List.find?_eq_none.1 hlk p hp)
      rw [e1]
      unfold putA putA0
      rw [hall, List.map_append]
      rfl

end Go.Proofs.Ythogpaojdlfjcaa.Rty
