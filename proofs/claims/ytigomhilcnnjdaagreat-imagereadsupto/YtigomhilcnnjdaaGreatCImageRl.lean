/- A round of ref12.read: a lease. -/
import Derived.Test.YtigomhilcnnjdaaGreatB36
import Derived.BigRegion
namespace Go.Proofs.YtigomhilcnnjdaaGreat.Img
open Go.RowKit Go.Proofs.YtigomhilcnnjdaaGreat Go.Proofs.YtigomhilcnnjdaaGreat.Smm
open Go.Proofs.YtigomhilcnnjdaaGreat.Spa (Sp RtS zeroS newS spV SpIn SpC put6 put6_at put6_def noS bel_put6)
open Go.Proofs.YtigomhilcnnjdaaGreat.Lea (LS Ls LL LO lsC)
open Go.Proofs.YtigomhilcnnjdaaGreat.Edi (numsB NO Nm bel_tr bel_al bel_cell bel_drew)
open Go.Proofs.YtigomhilcnnjdaaGreat.Wir (app_assoc app_size app_list size_list takeT)
open Go.WideShapes (bytes_inj)
set_option linter.unusedVariables false
set_option maxRecDepth 1000000 in
set_option maxHeartbeats 8000000 in
theorem rd_lease (w : World) (b n c Hb hc6 Q k : Nat) (p : ByteArray) (qs : List ByteArray) (z0 z1 z2 z3 : Int) (c1 c5 c17 c18 c19 c20 c21 c22 c23 c24 c25 c26 c27 c28 c29 c30 c31 c32 c33 c34 c35 c36 c37 c38 c39 c40 c41 c42 c43 c44 c45 c46 c47 c48 c49 c50 c51 c52 c53 c54 c55 c56 c57 c58 c59 c60 c61 c62 c63 c64 c65 c66 c67 c68 c69 c70 c71 c72 c73 c74 c75 c76 c77 c78 c79 c80 c81 c82 c83 c84 c85 c86 c87 c88 c225 u3 u8 u9 u10 u11 u12 u13 u14 u15 u16 u89 u90 u91 u92 u93 u94 u95 u96 u97 u98 u99 u100 u101 u102 u103 u104 u105 u106 u107 u108 u109 u110 u111 u112 u113 u114 u115 u116 u117 u118 u119 u120 u121 u122 u123 u124 u125 u126 u127 u128 u129 u130 u131 u132 u133 u134 u135 u136 u137 u138 u139 u140 u141 u142 u143 u144 u145 u146 u147 u148 u149 u150 u151 u152 u153 u154 u155 u156 u157 u158 u159 u160 u161 u162 u163 u164 u165 u166 u167 u168 u169 u170 u171 u172 u173 u174 u175 u176 u177 u178 u179 u180 u181 u182 u183 u184 u185 u186 u187 u188 u189 u190 u191 u192 u193 u194 u195 u196 u197 u198 u199 u200 u201 u202 u203 u204 u205 u206 u207 u208 u209 u210 u211 u212 u213 u214 u215 u216 u217 u218 u219 u220 u221 u222 u223 u224 : Value) (K0 : Act → World → Prop) (wr : World) (i : Nat) (xs : NS) (ys : LS) (N L : RS)
    (hk : n ≤ 900000000) (hx : 1 + c ≤ 9223372036854775807) (hc : n ≤ c) (HQL : Hid (qs.length = n)) (HSM : Hid (Small (p :: qs))) (S0 : Hid (Strs w (some ⟨b, 0, none⟩) b 0 (p :: qs)))
    (hi1 : 1 ≤ i) (HRD : Hid (Rd w Q Hb wr z0 z1 z2 z3 k xs ys N L)) (HSO : Hid (Sofar p qs z0 z1 z2 z3 k (i - 1) xs ys)) (hNn : N.n ≤ i) (hLn : L.n ≤ i) (hlt : i < 1 + n) (hki : k < i) :
    Code.wp Tryz.prog rdBody (Exit.then (fun a' w'' => RdWI w b n c Hb hc6 Q k p qs z0 z1 z2 z3 c1 c5 c17 c18 c19 c20 c21 c22 c23 c24 c25 c26 c27 c28 c29 c30 c31 c32 c33 c34 c35 c36 c37 c38 c39 c40 c41 c42 c43 c44 c45 c46 c47 c48 c49 c50 c51 c52 c53 c54 c55 c56 c57 c58 c59 c60 c61 c62 c63 c64 c65 c66 c67 c68 c69 c70 c71 c72 c73 c74 c75 c76 c77 c78 c79 c80 c81 c82 c83 c84 c85 c86 c87 c88 c225 a' w'' ∧ RdMu n a' w'' < RdMu n ⟨#[(.slice (some ⟨b, 0, none⟩) (1 + n) (1 + c)), c1, (.pointer (some ⟨w.heap.size, 0, none⟩)), u3, (.slice (some ⟨Hb, 0, none⟩) 6 hc6), c5, (.pointer (some ⟨Q, 0, none⟩)), (.int .i64 (i : Int)), u8, u9, u10, u11, u12, u13, u14, u15, u16, c17, c18, c19, c20, c21, c22, c23, c24, c25, c26, c27, c28, c29, c30, c31, c32, c33, c34, c35, c36, c37, c38, c39, c40, c41, c42, c43, c44, c45, c46, c47, c48, c49, c50, c51, c52, c53, c54, c55, c56, c57, c58, c59, c60, c61, c62, c63, c64, c65, c66, c67, c68, c69, c70, c71, c72, c73, c74, c75, c76, c77, c78, c79, c80, c81, c82, c83, c84, c85, c86, c87, c88, u89, u90, u91, u92, u93, u94, u95, u96, u97, u98, u99, u100, u101, u102, u103, u104, u105, u106, u107, u108, u109, u110, u111, u112, u113, u114, u115, u116, u117, u118, u119, u120, u121, u122, u123, u124, u125, u126, u127, u128, u129, u130, u131, u132, u133, u134, u135, u136, u137, u138, u139, u140, u141, u142, u143, u144, u145, u146, u147, u148, u149, u150, u151, u152, u153, u154, u155, u156, u157, u158, u159, u160, u161, u162, u163, u164, u165, u166, u167, u168, u169, u170, u171, u172, u173, u174, u175, u176, u177, u178, u179, u180, u181, u182, u183, u184, u185, u186, u187, u188, u189, u190, u191, u192, u193, u194, u195, u196, u197, u198, u199, u200, u201, u202, u203, u204, u205, u206, u207, u208, u209, u210, u211, u212, u213, u214, u215, u216, u217, u218, u219, u220, u221, u222, u223, u224, c225], []⟩ wr) (Exit.inBlock 0 (Exit.then K0 (bodyPost Tryz.prog Tryz.f14 (fun e w' => RRead w.heap.size (p :: qs) e w' ∧ Below w.heap.size w w'))))) ⟨#[(.slice (some ⟨b, 0, none⟩) (1 + n) (1 + c)), c1, (.pointer (some ⟨w.heap.size, 0, none⟩)), u3, (.slice (some ⟨Hb, 0, none⟩) 6 hc6), c5, (.pointer (some ⟨Q, 0, none⟩)), (.int .i64 (i : Int)), u8, u9, u10, u11, u12, u13, u14, u15, u16, c17, c18, c19, c20, c21, c22, c23, c24, c25, c26, c27, c28, c29, c30, c31, c32, c33, c34, c35, c36, c37, c38, c39, c40, c41, c42, c43, c44, c45, c46, c47, c48, c49, c50, c51, c52, c53, c54, c55, c56, c57, c58, c59, c60, c61, c62, c63, c64, c65, c66, c67, c68, c69, c70, c71, c72, c73, c74, c75, c76, c77, c78, c79, c80, c81, c82, c83, c84, c85, c86, c87, c88, u89, u90, u91, u92, u93, u94, u95, u96, u97, u98, u99, u100, u101, u102, u103, u104, u105, u106, u107, u108, u109, u110, u111, u112, u113, u114, u115, u116, u117, u118, u119, u120, u121, u122, u123, u124, u125, u126, u127, u128, u129, u130, u131, u132, u133, u134, u135, u136, u137, u138, u139, u140, u141, u142, u143, u144, u145, u146, u147, u148, u149, u150, u151, u152, u153, u154, u155, u156, u157, u158, u159, u160, u161, u162, u163, u164, u165, u166, u167, u168, u169, u170, u171, u172, u173, u174, u175, u176, u177, u178, u179, u180, u181, u182, u183, u184, u185, u186, u187, u188, u189, u190, u191, u192, u193, u194, u195, u196, u197, u198, u199, u200, u201, u202, u203, u204, u205, u206, u207, u208, u209, u210, u211, u212, u213, u214, u215, u216, u217, u218, u219, u220, u221, u222, u223, u224, c225], []⟩ wr := by
  obtain ⟨tl, hl1, hl2, hl3, hl4⟩ := Lea.lsRow
  conv => arg 2; whnf

  have g4 := HRD.out.h4
  have hq : i - 1 < qs.length := by rw [HQL.out]; omega
  obtain ⟨u, hu⟩ : ∃ u, qs[i - 1]? = some u := ⟨qs[i - 1], List.getElem?_eq_getElem hq⟩
  have HU : Hid (qs[i - 1]? = some u) := hu
  have hum : u ∈ p :: qs := List.mem_cons_of_mem _ (List.mem_of_getElem? hu)
  have hs4 : u.size ≤ 4000 := HSM.out u hum
  have ci : wr.cell? ⟨b, i, none⟩ = some (.string u) := by
    have hip : i < (p :: qs).length := by rw [List.length_cons, HQL.out]; omega
    have h1 := S0.out.cell i hip
    rw [Nat.zero_add] at h1
    have h2 : (p :: qs)[i]? = some u := by
      obtain ⟨j, rfl⟩ : ∃ j, i = j + 1 := ⟨i - 1, by omega⟩
      rw [List.getElem?_cons_succ]
      exact hu
    rw [List.getElem?_eq_getElem hip] at h2
    rw [Option.some.inj h2] at h1
    exact (HRD.out.bel.cell (p := ⟨b, i, none⟩) (S0.out.lt (by simp))).trans h1
  have HS4 : Hid (u.size ≤ 4000) := hs4
  have CN : Hid (∀ W, Calls Tryz.prog 36 #[.string u] W fun e w' => (∃ a n c zs g v, e = .returned (.tuple #[.slice a n c, .bool v]) ∧ NO W.heap.size w' a n c zs g ∧ NumOf u zs v) ∧ Below W.heap.size W w') := fun W => refNumbers_val u W hs4
  have hk1 : decide (k < i) = true := decide_eq_true hki
  have hk2 : decide ((k : Int) < (i : Int)) = true := decide_eq_true (by omega)
  clear hq hu hum hs4
  go_wp2_with fail
  refine (CN.out _).mono ?_
  rintro e w3 ⟨⟨va, vm, vc, vs, vg, v, rfl, hO, hNv⟩, b3⟩
  have RD3 : Hid (Rd w Q Hb w3 z0 z1 z2 z3 k xs ys N L) := HRD.out.below b3
  have RQ : Hid (SpC w3 w.heap.size zeroS noS noS) := RD3.out.r
  have BB : Hid (Below w.heap.size w w3) := RD3.out.bel
  have HO : Hid (NO wr.heap.size w3 va vm vc vs vg) := hO
  have HNV : Hid (NumOf u vs v) := hNv
  have HKI : Hid (k ≤ i - 1) := by show k ≤ i - 1; omega
  clear b3 hO hNv CN ci g4 hk1 hk2 HRD
  cases v with
  | false =>
    have HP : Hid _ := refuse_box RQ.out BB.out (ps := p :: qs) (fun t ht => by obtain ⟨hq, hu⟩ := List.getElem?_eq_some_iff.1 HU.out; exact HSO.out.lease_bad hq HKI.out (by rw [hu]; exact HNV.out) (.inl rfl) t ht)
    rw [put6_def] at HP
    unfold noS zeroS spV at HP
    simp only at HP
    obtain ⟨r0, r1, r2, r3, r4, r5, rf⟩ := RQ.out
    simp only [zeroS, noS] at r0 r1 r2 r3 r4 r5
    go_wp2
    obtain ⟨q0, q1, q2, q3, q4, q5, _⟩ := HP.out.1
    (first | rw [Exit.noGoto_ret] | skip)
    refine bodyPost_ret (v := .tuple #[.agg #[.int .i64 0, .int .i64 0, .int .i64 0, .int .i64 0, .slice none 0 0, .slice none 0 0], .bool false]) ?_ rfl ⟨HP.out.2.1, HP.out.2.2⟩
    simp only [results, Tryz.results14]
    simp [go_sem, q0, q1, q2, q3, q4, q5]
  | true =>
    have hvl := HO.out.len
    by_cases h2 : vm = 2
    · subst h2
      obtain ⟨vb, rfl, hv1, hv2, hvc⟩ := some_cells HO.out (by omega)
      obtain ⟨cz, uz, rfl⟩ : ∃ cz uz, vs = [cz, uz] := by
        match vs, hvl with
        | [x, y], _ => exact ⟨x, y, rfl⟩
      have y0 : w3.cell? ⟨vb, 0, none⟩ = some (.int .i64 cz) := hvc 0 (by simp)
      have y1 : w3.cell? ⟨vb, 1, none⟩ = some (.int .i64 uz) := hvc 1 (by simp)
      have HSN : Hid (Sofar p qs z0 z1 z2 z3 k (i + 1 - 1) xs (ys ++ [⟨cz, uz⟩])) := by
        obtain ⟨hq, hu⟩ := List.getElem?_eq_some_iff.1 HU.out
        have h := HSO.out.lease hq HKI.out (v := true) (c := cz) (u := uz) (by rw [hu]; exact HNV.out)
        rw [show i - 1 + 1 = i + 1 - 1 by omega] at h
        exact h
      obtain ⟨La, Ln, Lc⟩ := L
      simp only at hLn
      have yQ : w3.cell? ⟨Q, 5, none⟩ = some (.slice La Ln Lc) := RD3.out.q.c5
      have y0a := fun o => bel_cell (bel_al w3 o) y0
      have y1a := fun o => bel_cell (bel_al w3 o) y1
      have yQa := fun o => bel_cell (bel_al w3 o) yQ
      have BW : Hid (Below w3.heap.size w3 (w3.alloc (.cells #[.int .i64 cz, .int .i64 uz] 48)).drew) := bel_tr (bel_al _ _) (bel_drew _)
      obtain ⟨M, gl, hLO, hPush⟩ := (RD3.out.below BW.out).pushL ⟨cz, uz⟩
      have HLO : Hid (LO M (w3.alloc (.cells #[.int .i64 cz, .int .i64 uz] 48)).drew La Ln Lc ys gl) := hLO
      have HPU : Hid _ := fun (_ : Unit) => hPush
      have HSRC : Hid (Src Tryz.prog 2 24 (.slice (some ⟨w3.heap.size, 0, none⟩) 1 1) 1 (rowC lsC [⟨cz, uz⟩]) (w3.alloc (.cells #[.int .i64 cz, .int .i64 uz] 48)).drew) := src_lsD w3 ⟨cz, uz⟩
      clear hLO hPush hvc hvl hv1 hv2 HO HNV RQ BB
      go_upto_region 14 with fail
      go_region_law (refine step_append_cel rfl (.tmp 117) (.tmp 125) 24 24 rfl 48 tl _ 2 16 Tryz.underlying24 hl1 hl2 hl3 hl4 rfl (O := fun z => M ≤ z) _ Ln _ gl (by simp [Act.eval]) HLO.out.cel _ 1 (rowC lsC [⟨cz, uz⟩]) (by simp [Act.eval]) HSRC.out (by unfold maxLen; omega) (by omega) ?_; intro a5 c5 w5 g5 hC5 hS5 hg5; obtain ⟨t5, s5, hR5⟩ := HPU.out () w5 a5 c5 g5 hC5 hS5; (try dsimp only at t5 s5); have R5 : Hid _ := hR5; clear hC5 hS5 hg5 hR5)
      all_goals
        go_wp2
        refine ⟨?_, by simp [RdMu, intOf]; omega⟩
        unfold RdWI
        refine ⟨_, _, _, _, _, _, _, _, _, _, _, _, _, _, _, _, _, _, _, _, _, _, _, _, _, _, _, _, _, _, _, _, _, _, _, _, _, _, _, _, _, _, _, _, _, _, _, _, _, _, _, _, _, _, _, _, _, _, _, _, _, _, _, _, _, _, _, _, _, _, _, _, _, _, _, _, _, _, _, _, _, _, _, _, _, _, _, _, _, _, _, _, _, _, _, _, _, _, _, _, _, _, _, _, _, _, _, _, _, _, _, _, _, _, _, _, _, _, _, _, _, _, _, _, _, _, _, _, _, _, _, _, _, _, _, _, _, _, _, _, _, _, _, _, _, _, _, ?_, rfl⟩
        exact ⟨i + 1, N, ⟨a5, Ln + 1, c5⟩, xs, ys ++ [⟨cz, uz⟩], by omega, by omega, by go_num, R5.out, HSN.out, by omega, by show Ln + 1 ≤ i + 1; omega, fun h => by omega⟩
    · have hb2 : ((vm : Int) != 2) = true := by simp only [bne_iff_ne, ne_eq]; omega
      have HP : Hid _ := refuse_box RQ.out BB.out (ps := p :: qs) (fun t ht => by obtain ⟨hq, hu⟩ := List.getElem?_eq_some_iff.1 HU.out; exact HSO.out.lease_bad hq HKI.out (by rw [hu]; exact HNV.out) (.inr (by rw [hvl]; exact h2)) t ht)
      rw [put6_def] at HP
      unfold noS zeroS spV at HP
      simp only at HP
      obtain ⟨r0, r1, r2, r3, r4, r5, rf⟩ := RQ.out
      simp only [zeroS, noS] at r0 r1 r2 r3 r4 r5
      go_wp2
      obtain ⟨q0, q1, q2, q3, q4, q5, _⟩ := HP.out.1
      (first | rw [Exit.noGoto_ret] | skip)
      refine bodyPost_ret (v := .tuple #[.agg #[.int .i64 0, .int .i64 0, .int .i64 0, .int .i64 0, .slice none 0 0, .slice none 0 0], .bool false]) ?_ rfl ⟨HP.out.2.1, HP.out.2.2⟩
      simp only [results, Tryz.results14]
      simp [go_sem, q0, q1, q2, q3, q4, q5]

end Go.Proofs.YtigomhilcnnjdaaGreat.Img
