/- A round of ref12.read: a node. -/
import Derived.Test.YtigomhilcnnjdaaGreatB36
import Derived.Test.YtigomhilcnnjdaaGreatCImageRi
import Derived.BigRegion
namespace Go.Proofs.YtigomhilcnnjdaaGreat.Img
open Go.RowKit Go.Proofs.YtigomhilcnnjdaaGreat Go.Proofs.YtigomhilcnnjdaaGreat.Smm
open Go.Proofs.YtigomhilcnnjdaaGreat.Spa (Sp RtS zeroS newS spV SpIn SpC put6 put6_at put6_def noS bel_put6)
open Go.Proofs.YtigomhilcnnjdaaGreat.Lea (LS Ls LL LO lsC)
open Go.Proofs.YtigomhilcnnjdaaGreat.Edi (numsB NO Nm bel_tr bel_al bel_cell bel_drew)
open Go.Proofs.YtigomhilcnnjdaaGreat.Wir (app_assoc app_size app_list size_list takeT)
open Go.WideShapes (bytes_inj)
set_option linter.unusedVariables false
set_option maxRecDepth 1000000 in
set_option maxHeartbeats 8000000 in
theorem rd_node (w : World) (b n c Hb hc6 Q k : Nat) (p : ByteArray) (qs : List ByteArray) (z0 z1 z2 z3 : Int) (c1 c5 c17 c18 c19 c20 c21 c22 c23 c24 c25 c26 c27 c28 c29 c30 c31 c32 c33 c34 c35 c36 c37 c38 c39 c40 c41 c42 c43 c44 c45 c46 c47 c48 c49 c50 c51 c52 c53 c54 c55 c56 c57 c58 c59 c60 c61 c62 c63 c64 c65 c66 c67 c68 c69 c70 c71 c72 c73 c74 c75 c76 c77 c78 c79 c80 c81 c82 c83 c84 c85 c86 c87 c88 c225 u3 u8 u9 u10 u11 u12 u13 u14 u15 u16 u89 u90 u91 u92 u93 u94 u95 u96 u97 u98 u99 u100 u101 u102 u103 u104 u105 u106 u107 u108 u109 u110 u111 u112 u113 u114 u115 u116 u117 u118 u119 u120 u121 u122 u123 u124 u125 u126 u127 u128 u129 u130 u131 u132 u133 u134 u135 u136 u137 u138 u139 u140 u141 u142 u143 u144 u145 u146 u147 u148 u149 u150 u151 u152 u153 u154 u155 u156 u157 u158 u159 u160 u161 u162 u163 u164 u165 u166 u167 u168 u169 u170 u171 u172 u173 u174 u175 u176 u177 u178 u179 u180 u181 u182 u183 u184 u185 u186 u187 u188 u189 u190 u191 u192 u193 u194 u195 u196 u197 u198 u199 u200 u201 u202 u203 u204 u205 u206 u207 u208 u209 u210 u211 u212 u213 u214 u215 u216 u217 u218 u219 u220 u221 u222 u223 u224 : Value) (K0 : Act → World → Prop) (wr : World) (i : Nat) (xs : NS) (N : RS)
    (hk : n ≤ 900000000) (hx : 1 + c ≤ 9223372036854775807) (hc : n ≤ c) (HQL : Hid (qs.length = n)) (HSM : Hid (Small (p :: qs))) (S0 : Hid (Strs w (some ⟨b, 0, none⟩) b 0 (p :: qs)))
    (hi1 : 1 ≤ i) (HRD : Hid (Rd w Q Hb wr z0 z1 z2 z3 k xs [] N noS)) (HSO : Hid (Sofar p qs z0 z1 z2 z3 k (i - 1) xs [])) (hNn : N.n ≤ i) (hlt : i < 1 + n) (hki : ¬ k < i) :
    Code.wp Tryz.prog rdBody (Exit.then (fun a' w'' => RdWI w b n c Hb hc6 Q k p qs z0 z1 z2 z3 c1 c5 c17 c18 c19 c20 c21 c22 c23 c24 c25 c26 c27 c28 c29 c30 c31 c32 c33 c34 c35 c36 c37 c38 c39 c40 c41 c42 c43 c44 c45 c46 c47 c48 c49 c50 c51 c52 c53 c54 c55 c56 c57 c58 c59 c60 c61 c62 c63 c64 c65 c66 c67 c68 c69 c70 c71 c72 c73 c74 c75 c76 c77 c78 c79 c80 c81 c82 c83 c84 c85 c86 c87 c88 c225 a' w'' ∧ RdMu n a' w'' < RdMu n ⟨#[(.slice (some ⟨b, 0, none⟩) (1 + n) (1 + c)), c1, (.pointer (some ⟨w.heap.size, 0, none⟩)), u3, (.slice (some ⟨Hb, 0, none⟩) 6 hc6), c5, (.pointer (some ⟨Q, 0, none⟩)), (.int .i64 (i : Int)), u8, u9, u10, u11, u12, u13, u14, u15, u16, c17, c18, c19, c20, c21, c22, c23, c24, c25, c26, c27, c28, c29, c30, c31, c32, c33, c34, c35, c36, c37, c38, c39, c40, c41, c42, c43, c44, c45, c46, c47, c48, c49, c50, c51, c52, c53, c54, c55, c56, c57, c58, c59, c60, c61, c62, c63, c64, c65, c66, c67, c68, c69, c70, c71, c72, c73, c74, c75, c76, c77, c78, c79, c80, c81, c82, c83, c84, c85, c86, c87, c88, u89, u90, u91, u92, u93, u94, u95, u96, u97, u98, u99, u100, u101, u102, u103, u104, u105, u106, u107, u108, u109, u110, u111, u112, u113, u114, u115, u116, u117, u118, u119, u120, u121, u122, u123, u124, u125, u126, u127, u128, u129, u130, u131, u132, u133, u134, u135, u136, u137, u138, u139, u140, u141, u142, u143, u144, u145, u146, u147, u148, u149, u150, u151, u152, u153, u154, u155, u156, u157, u158, u159, u160, u161, u162, u163, u164, u165, u166, u167, u168, u169, u170, u171, u172, u173, u174, u175, u176, u177, u178, u179, u180, u181, u182, u183, u184, u185, u186, u187, u188, u189, u190, u191, u192, u193, u194, u195, u196, u197, u198, u199, u200, u201, u202, u203, u204, u205, u206, u207, u208, u209, u210, u211, u212, u213, u214, u215, u216, u217, u218, u219, u220, u221, u222, u223, u224, c225], []⟩ wr) (Exit.inBlock 0 (Exit.then K0 (bodyPost Tryz.prog Tryz.f14 (fun e w' => RRead w.heap.size (p :: qs) e w' ∧ Below w.heap.size w w'))))) ⟨#[(.slice (some ⟨b, 0, none⟩) (1 + n) (1 + c)), c1, (.pointer (some ⟨w.heap.size, 0, none⟩)), u3, (.slice (some ⟨Hb, 0, none⟩) 6 hc6), c5, (.pointer (some ⟨Q, 0, none⟩)), (.int .i64 (i : Int)), u8, u9, u10, u11, u12, u13, u14, u15, u16, c17, c18, c19, c20, c21, c22, c23, c24, c25, c26, c27, c28, c29, c30, c31, c32, c33, c34, c35, c36, c37, c38, c39, c40, c41, c42, c43, c44, c45, c46, c47, c48, c49, c50, c51, c52, c53, c54, c55, c56, c57, c58, c59, c60, c61, c62, c63, c64, c65, c66, c67, c68, c69, c70, c71, c72, c73, c74, c75, c76, c77, c78, c79, c80, c81, c82, c83, c84, c85, c86, c87, c88, u89, u90, u91, u92, u93, u94, u95, u96, u97, u98, u99, u100, u101, u102, u103, u104, u105, u106, u107, u108, u109, u110, u111, u112, u113, u114, u115, u116, u117, u118, u119, u120, u121, u122, u123, u124, u125, u126, u127, u128, u129, u130, u131, u132, u133, u134, u135, u136, u137, u138, u139, u140, u141, u142, u143, u144, u145, u146, u147, u148, u149, u150, u151, u152, u153, u154, u155, u156, u157, u158, u159, u160, u161, u162, u163, u164, u165, u166, u167, u168, u169, u170, u171, u172, u173, u174, u175, u176, u177, u178, u179, u180, u181, u182, u183, u184, u185, u186, u187, u188, u189, u190, u191, u192, u193, u194, u195, u196, u197, u198, u199, u200, u201, u202, u203, u204, u205, u206, u207, u208, u209, u210, u211, u212, u213, u214, u215, u216, u217, u218, u219, u220, u221, u222, u223, u224, c225], []⟩ wr := by
  obtain ⟨tb, hb1', hb2', hb3', hb4'⟩ := blkRow
  obtain ⟨tn, hn1, hn2, hn3, hn4⟩ := ndRow
  conv => arg 2; whnf

  have g4 := HRD.out.h4
  have hq : i - 1 < qs.length := by rw [HQL.out]; omega
  obtain ⟨u, hu⟩ : ∃ u, qs[i - 1]? = some u := ⟨qs[i - 1], List.getElem?_eq_getElem hq⟩
  have HU : Hid (qs[i - 1]? = some u) := hu
  have hum : u ∈ p :: qs := List.mem_cons_of_mem _ (List.mem_of_getElem? hu)
  have hs4 : u.size ≤ 4000 := HSM.out u hum
  have ci : wr.cell? ⟨b, i, none⟩ = some (.string u) := by
    have hip : i < (p :: qs).length := by rw [List.length_cons, HQL.out]; omega
    have h1 := S0.out.cell i hip
    rw [Nat.zero_add] at h1
    have h2 : (p :: qs)[i]? = some u := by
      obtain ⟨j, rfl⟩ : ∃ j, i = j + 1 := ⟨i - 1, by omega⟩
      rw [List.getElem?_cons_succ]
      exact hu
    rw [List.getElem?_eq_getElem hip] at h2
    rw [Option.some.inj h2] at h1
    exact (HRD.out.bel.cell (p := ⟨b, i, none⟩) (S0.out.lt (by simp))).trans h1
  have HS4 : Hid (u.size ≤ 4000) := hs4
  have hk1 : decide (k < i) = false := decide_eq_false hki
  have hk2 : decide ((k : Int) < (i : Int)) = false := decide_eq_false (by omega)
  have HKI : Hid (i - 1 < k) := by show i - 1 < k; omega
  replace hum : u.size ≤ maxLen := by have := HS4.out; unfold maxLen; omega
  obtain ⟨Na, Nn, Nc⟩ := N
  simp only at hNn
  clear hq hu hs4
  cases hT : takeT u with
  | none =>
    have CT : Hid (∀ W, Calls Tryz.prog 37 #[.string u] W fun e w' => e = .returned (.tuple #[.string ⟨#[]⟩, .string ⟨#[]⟩, .bool false]) ∧ Below W.heap.size W w') := fun W => Wir.refTakeText_no u W hum hT
    have CE : Hid (∀ W, Calls Tryz.prog 36 #[.string ⟨#[]⟩] W fun e w' => (∃ a n c zs g v, e = .returned (.tuple #[.slice a n c, .bool v]) ∧ NO W.heap.size w' a n c zs g ∧ NumOf ⟨#[]⟩ zs v) ∧ Below W.heap.size W w') := fun W => refNumbers_val _ W (by show 0 ≤ 4000; omega)
    have HT : Hid (takeT u = none) := hT
    clear hT hum
    go_wp2_with fail
    refine (CT.out _).mono ?_
    rintro e w3 ⟨rfl, b3⟩
    have B3 : Hid (Below wr.heap.size wr w3) := b3
    clear b3 CT
    go_wp2_with fail
    refine (CE.out _).mono ?_
    rintro e w4 ⟨⟨va, vm, vc, vs, vg, v, rfl, hO, hNv⟩, b4⟩
    have B4 : Hid (Below wr.heap.size wr w4) := bel_tr B3.out b4
    have RQ : Hid (SpC w4 w.heap.size zeroS noS noS) := HRD.out.r.below B4.out
    have BB : Hid (Below w.heap.size w w4) := bel_tr HRD.out.bel B4.out
    clear b4 hO hNv CE B3 ci g4 hk1 hk2
    have HP : Hid _ := refuse_box RQ.out BB.out (ps := p :: qs) (fun t ht => by obtain ⟨hq, hu⟩ := List.getElem?_eq_some_iff.1 HU.out; exact HSO.out.node_none hq HKI.out (by rw [hu]; exact HT.out) t ht)
    rw [put6_def] at HP
    unfold noS zeroS spV at HP
    simp only at HP
    obtain ⟨r0, r1, r2, r3, r4, r5, rf⟩ := RQ.out
    simp only [zeroS, noS] at r0 r1 r2 r3 r4 r5
    go_wp2
    obtain ⟨q0, q1, q2, q3, q4, q5, _⟩ := HP.out.1
    (first | rw [Exit.noGoto_ret] | skip)
    refine bodyPost_ret (v := .tuple #[.agg #[.int .i64 0, .int .i64 0, .int .i64 0, .int .i64 0, .slice none 0 0, .slice none 0 0], .bool false]) ?_ rfl ⟨HP.out.2.1, HP.out.2.2⟩
    simp only [results, Tryz.results14]
    simp [go_sem, q0, q1, q2, q3, q4, q5]
  | some x =>
    obtain ⟨pa, rest⟩ := x
    have hsp : pa.size ≤ 4000 ∧ rest.size ≤ 4000 := by
      obtain ⟨k1, k2⟩ := Wir.takeT_sound hT
      have h := congrArg List.length k1
      rw [List.length_append, size_list, size_list, size_list] at h
      have := HS4.out
      exact ⟨k2, by omega⟩
    have HSP : Hid (pa.size ≤ maxLen) := by show pa.size ≤ maxLen; unfold maxLen; omega
    have CT : Hid (∀ W, Calls Tryz.prog 37 #[.string u] W fun e w' => e = .returned (.tuple #[.string pa, .string rest, .bool true]) ∧ Below W.heap.size W w') := fun W => Wir.refTakeText_yes u pa rest W hum hT
    have CE : Hid (∀ W, Calls Tryz.prog 36 #[.string rest] W fun e w' => (∃ a n c zs g v, e = .returned (.tuple #[.slice a n c, .bool v]) ∧ NO W.heap.size w' a n c zs g ∧ NumOf rest zs v) ∧ Below W.heap.size W w') := fun W => refNumbers_val rest W hsp.2
    have HT : Hid (takeT u = some (pa, rest)) := hT
    clear hT hum hsp
    go_wp2_with fail
    refine (CT.out _).mono ?_
    rintro e w3 ⟨rfl, b3⟩
    have B3 : Hid (Below wr.heap.size wr w3) := b3
    have hw3 := b3.size
    clear b3 CT
    go_wp2_with fail
    refine (CE.out _).mono ?_
    rintro e w4 ⟨⟨va, vm, vc, vs, vg, v, rfl, hO, hNv⟩, b4⟩
    have B4 : Hid (Below wr.heap.size wr w4) := bel_tr B3.out b4
    have RQ : Hid (SpC w4 w.heap.size zeroS noS noS) := HRD.out.r.below B4.out
    have BB : Hid (Below w.heap.size w w4) := bel_tr HRD.out.bel B4.out
    have HO : Hid (NO w3.heap.size w4 va vm vc vs vg) := hO
    have HNV : Hid (NumOf rest vs v) := hNv
    clear b4 hO hNv CE B3 ci g4 hk1 hk2
    cases v with
    | false =>
      have HP : Hid _ := refuse_box RQ.out BB.out (ps := p :: qs) (fun t ht => by obtain ⟨hq, hu⟩ := List.getElem?_eq_some_iff.1 HU.out; exact HSO.out.node_bad hq HKI.out (by rw [hu]; exact HT.out) HNV.out (.inl rfl) t ht)
      rw [put6_def] at HP
      unfold noS zeroS spV at HP
      simp only at HP
      obtain ⟨r0, r1, r2, r3, r4, r5, rf⟩ := RQ.out
      simp only [zeroS, noS] at r0 r1 r2 r3 r4 r5
      go_wp2
      obtain ⟨q0, q1, q2, q3, q4, q5, _⟩ := HP.out.1
      (first | rw [Exit.noGoto_ret] | skip)
      refine bodyPost_ret (v := .tuple #[.agg #[.int .i64 0, .int .i64 0, .int .i64 0, .int .i64 0, .slice none 0 0, .slice none 0 0], .bool false]) ?_ rfl ⟨HP.out.2.1, HP.out.2.2⟩
      simp only [results, Tryz.results14]
      simp [go_sem, q0, q1, q2, q3, q4, q5]
    | true =>
      have hvl := HO.out.len
      by_cases h4 : vm < 4
      · have hb4 : decide ((vm : Int) < 4) = true := decide_eq_true (by omega)
        have HP : Hid _ := refuse_box RQ.out BB.out (ps := p :: qs) (fun t ht => by obtain ⟨hq, hu⟩ := List.getElem?_eq_some_iff.1 HU.out; exact HSO.out.node_bad hq HKI.out (by rw [hu]; exact HT.out) HNV.out (.inr (.inl (by rw [hvl]; exact h4))) t ht)
        rw [put6_def] at HP
        unfold noS zeroS spV at HP
        simp only at HP
        obtain ⟨r0, r1, r2, r3, r4, r5, rf⟩ := RQ.out
        simp only [zeroS, noS] at r0 r1 r2 r3 r4 r5
        go_wp2
        obtain ⟨q0, q1, q2, q3, q4, q5, _⟩ := HP.out.1
        (first | rw [Exit.noGoto_ret] | skip)
        refine bodyPost_ret (v := .tuple #[.agg #[.int .i64 0, .int .i64 0, .int .i64 0, .int .i64 0, .slice none 0 0, .slice none 0 0], .bool false]) ?_ rfl ⟨HP.out.2.1, HP.out.2.2⟩
        simp only [results, Tryz.results14]
        simp [go_sem, q0, q1, q2, q3, q4, q5]
      have hb4 : decide ((vm : Int) < 4) = false := decide_eq_false (by omega)
      obtain ⟨vb, rfl, hv1, hv2, hvc⟩ := some_cells HO.out (by omega)
      obtain ⟨v3, hv3⟩ : ∃ z, vs[3]? = some z := ⟨vs[3]'(by omega), List.getElem?_eq_getElem _⟩
      have HV3 : Hid (vs[3]? = some v3) := hv3
      have y3 : w4.cell? ⟨vb, 3, none⟩ = some (.int .i64 v3) := by
        obtain ⟨hj, rfl⟩ := List.getElem?_eq_some_iff.1 hv3
        exact hvc 3 hj
      have HVC : Hid (∀ j (hj : j < vs.length), w4.cell? ⟨vb, j, none⟩ = some (.int .i64 vs[j])) := hvc
      clear hvc hv3 HO
      by_cases hn0 : v3 < 0
      · have hb5 : decide (v3 < 0) = true := decide_eq_true hn0
        have HP : Hid _ := refuse_box RQ.out BB.out (ps := p :: qs) (fun t ht => by obtain ⟨hq, hu⟩ := List.getElem?_eq_some_iff.1 HU.out; exact HSO.out.node_bad hq HKI.out (by rw [hu]; exact HT.out) HNV.out (.inr (.inr (.inl ⟨v3, HV3.out, .inl hn0⟩))) t ht)
        rw [put6_def] at HP
        unfold noS zeroS spV at HP
        simp only at HP
        obtain ⟨r0, r1, r2, r3, r4, r5, rf⟩ := RQ.out
        simp only [zeroS, noS] at r0 r1 r2 r3 r4 r5
        go_wp2
        obtain ⟨q0, q1, q2, q3, q4, q5, _⟩ := HP.out.1
        (first | rw [Exit.noGoto_ret] | skip)
        refine bodyPost_ret (v := .tuple #[.agg #[.int .i64 0, .int .i64 0, .int .i64 0, .int .i64 0, .slice none 0 0, .slice none 0 0], .bool false]) ?_ rfl ⟨HP.out.2.1, HP.out.2.2⟩
        simp only [results, Tryz.results14]
        simp [go_sem, q0, q1, q2, q3, q4, q5]
      have hb5 : decide (v3 < 0) = false := decide_eq_false hn0
      by_cases hn8 : 8 < v3
      · have hb6 : decide (8 < v3) = true := decide_eq_true hn8
        have HP : Hid _ := refuse_box RQ.out BB.out (ps := p :: qs) (fun t ht => by obtain ⟨hq, hu⟩ := List.getElem?_eq_some_iff.1 HU.out; exact HSO.out.node_bad hq HKI.out (by rw [hu]; exact HT.out) HNV.out (.inr (.inr (.inl ⟨v3, HV3.out, .inr hn8⟩))) t ht)
        rw [put6_def] at HP
        unfold noS zeroS spV at HP
        simp only at HP
        obtain ⟨r0, r1, r2, r3, r4, r5, rf⟩ := RQ.out
        simp only [zeroS, noS] at r0 r1 r2 r3 r4 r5
        go_wp2
        obtain ⟨q0, q1, q2, q3, q4, q5, _⟩ := HP.out.1
        (first | rw [Exit.noGoto_ret] | skip)
        refine bodyPost_ret (v := .tuple #[.agg #[.int .i64 0, .int .i64 0, .int .i64 0, .int .i64 0, .slice none 0 0, .slice none 0 0], .bool false]) ?_ rfl ⟨HP.out.2.1, HP.out.2.2⟩
        simp only [results, Tryz.results14]
        simp [go_sem, q0, q1, q2, q3, q4, q5]
      have hb6 : decide (8 < v3) = false := decide_eq_false hn8
      obtain ⟨m, rfl⟩ : ∃ m : Nat, v3 = (m : Int) := ⟨v3.toNat, by omega⟩
      have hm8 : m ≤ 8 := by omega
      by_cases hlen : vm = 4 + 3 * m
      · subst hlen
        obtain ⟨a0, a1, a2, bs, hbl, hvs⟩ := node_nums (m := m) hvl (by obtain ⟨hj, h9⟩ := List.getElem?_eq_some_iff.1 HV3.out; exact h9)
        obtain ⟨⟨x0, x1, x2, x3⟩, hbc⟩ := node_cells HVC.out hvs
        have x0a := fun o => bel_cell (bel_al w4 o) x0
        have x1a := fun o => bel_cell (bel_al w4 o) x1
        have x2a := fun o => bel_cell (bel_al w4 o) x2
        have HBL : Hid (bs.length = m) := hbl
        have HVS : Hid (vs = [a0, a1, a2, (m : Int)] ++ blkZ bs) := hvs
        have HSN : Hid (Sofar p qs z0 z1 z2 z3 k (i + 1 - 1) (xs ++ [⟨pa, a0 == 1, a1, bs, a2⟩]) []) := by
          obtain ⟨hq, hu⟩ := List.getElem?_eq_some_iff.1 HU.out
          have h := HSO.out.node hq HKI.out (by rw [hu]; exact HT.out) (v := true) (a0 := a0) (a1 := a1) (a2 := a2) (bs := bs) (by rw [HBL.out, ← HVS.out]; exact HNV.out)
          rw [show i - 1 + 1 = i + 1 - 1 by omega] at h
          exact h
        obtain ⟨dd, hdd⟩ : ∃ d, (a0 == 1) = d := ⟨_, rfl⟩
        rw [hdd] at HSN
        clear hbc hvs hbl hvl hn0 hn8 h4 RQ BB HNV HT
        go_upto_region 19 with fail
        go_region
        have NB0 : Hid (Nb wr w4.heap.size vb vs (w4.alloc (.cells #[.string pa, .bool dd, .int .i64 a1, .slice none 0 0, .int .i64 a2] 55)).drew ⟨pa, dd, a1, [], a2⟩ noS none) := nb_new B4.out HVC.out (by omega) hv2 pa dd a1 a2 _
        clear x0 x1 x2 x3 x0a x1a x2a y3 hb4 hb5 hb6 hdd HVC hv1
        generalize (w4.alloc (.cells #[.string pa, .bool dd, .int .i64 a1, .slice none 0 0, .int .i64 a2] 55)).drew = W5 at *
        generalize w4.heap.size = P at *
        go_wp2
        refine in_loop wr P vb vc m vs pa dd a1 a2 bs _ _ _ _ _ _ _ _ _ _ _ _ _ _ _ _ _ _ _ _ _ _ _ _ _ _ _ _ _ _ _ _ _ _ _ _ _ _ _ _ _ _ _ _ _ _ _ _ _ _ _ _ _ _ _ _ _ _ _ _ _ _ _ _ _ _ _ _ _ _ _ _ _ _ _ _ _ _ _ _ _ _ _ _ _ _ _ _ _ _ _ _ _ _ _ _ _ _ _ _ _ _ _ _ _ _ _ _ _ _ _ _ _ _ _ _ _ _ _ _ _ _ _ _ _ _ _ _ _ _ _ _ _ _ _ _ _ _ _ _ _ _ _ _ _ _ _ _ _ _ _ _ _ _ _ _ _ _ _ _ _ _ _ _ _ _ _ _ _ _ _ _ _ _ _ _ _ _ _ _ _ _ _ _ _ _ _ _ _ _ _ _ _ _ _ _ _ _ _ _ _ _ _ _ _ _ _ _ _ _ _ _ _ _ _ _ _ _ _ _ _ _ _ _ _ _ _ _ _ W5 ?_ a0 hm8 HBL HVS ⟨0, none, 0, none, by omega, rfl, by rw [List.take_zero]; exact NB0.out⟩
        intro a' wo hX
        unfold InWX at hX
        obtain ⟨u16, hX⟩ := hX
        obtain ⟨u188, hX⟩ := hX
        obtain ⟨u189, hX⟩ := hX
        obtain ⟨u190, hX⟩ := hX
        obtain ⟨u191, hX⟩ := hX
        obtain ⟨u192, hX⟩ := hX
        obtain ⟨u193, hX⟩ := hX
        obtain ⟨u194, hX⟩ := hX
        obtain ⟨u195, hX⟩ := hX
        obtain ⟨u196, hX⟩ := hX
        obtain ⟨u197, hX⟩ := hX
        obtain ⟨u198, hX⟩ := hX
        obtain ⟨u199, hX⟩ := hX
        obtain ⟨u200, hX⟩ := hX
        obtain ⟨u201, hX⟩ := hX
        obtain ⟨u202, hX⟩ := hX
        obtain ⟨u203, hX⟩ := hX
        obtain ⟨u204, hX⟩ := hX
        obtain ⟨u205, hX⟩ := hX
        obtain ⟨u206, hX⟩ := hX
        obtain ⟨u207, hX⟩ := hX
        obtain ⟨u208, hX⟩ := hX
        obtain ⟨u209, hX⟩ := hX
        obtain ⟨u210, hX⟩ := hX
        obtain ⟨u211, hX⟩ := hX
        obtain ⟨u212, hX⟩ := hX
        obtain ⟨u213, hX⟩ := hX
        obtain ⟨u214, hX⟩ := hX
        obtain ⟨u215, hX⟩ := hX
        obtain ⟨u216, hX⟩ := hX
        obtain ⟨u217, hX⟩ := hX
        obtain ⟨u218, hX⟩ := hX
        obtain ⟨⟨fa, fc, g, hNb⟩, rfl⟩ := hX
        have HNB : Hid (Nb wr P vb vs wo ⟨pa, dd, a1, bs, a2⟩ ⟨fa, m, fc⟩ g) := hNb
        have BWO : Hid (Below wr.heap.size wr wo) := hNb.bel
        have HFREE : Hid (Free wr.heap.size wo (⟨pa, dd, a1, bs, a2⟩, ⟨fa, m, fc⟩)) := HNB.out.free HSP.out
        obtain ⟨ps, gN, hcel, hPN⟩ := HRD.out.pushN
        have HCEL : Hid (Cel (fun z => Q + 1 ≤ z) wr 5 (.slice Na Nn Nc) Nn (rowC ndC ps) gN) := hcel
        have HPN : Hid _ := fun (_ : Unit) => hPN
        clear hNb hcel hPN NB0
        obtain ⟨n0, n1, n2, n3, n4, nf⟩ := HNB.out.n
        simp only at n0 n1 n2 n3 n4
        have q4 : wo.cell? ⟨Q, 4, none⟩ = some (.slice Na Nn Nc) := (HRD.out.q.below BWO.out).c4
        go_wp2_with (at_builtin; refine wpList_append_cel _ rfl _ _ 23 23 rfl 55 tn _ 5 64 Tryz.underlying23 hn1 hn2 hn3 hn4 rfl (O := fun z => Q + 1 ≤ z) _ Nn _ gN rfl ((HCEL.out.below BWO.out).below (bel_al _ _)) _ 1 (rowC ndC [((⟨pa, dd, a1, bs, a2⟩ : Nd), (⟨fa, m, fc⟩ : RS))]) rfl (src_new5 wo (⟨pa, dd, a1, bs, a2⟩, ⟨fa, m, fc⟩)) (by unfold maxLen; omega) (by omega) ?_; intro a5 c5 w5 g5 hC5 hS5 hg5; obtain ⟨t5, s5, hR5⟩ := HPN.out () wo _ _ _ BWO.out HFREE.out w5 a5 c5 g5 hC5 hS5 hg5; (try dsimp only at t5 s5); have R5 : Hid _ := hR5; clear hC5 hS5 hg5 hR5)
        refine ⟨?_, by simp [RdMu, intOf]; omega⟩
        unfold RdWI
        refine ⟨_, _, _, _, _, _, _, _, _, _, _, _, _, _, _, _, _, _, _, _, _, _, _, _, _, _, _, _, _, _, _, _, _, _, _, _, _, _, _, _, _, _, _, _, _, _, _, _, _, _, _, _, _, _, _, _, _, _, _, _, _, _, _, _, _, _, _, _, _, _, _, _, _, _, _, _, _, _, _, _, _, _, _, _, _, _, _, _, _, _, _, _, _, _, _, _, _, _, _, _, _, _, _, _, _, _, _, _, _, _, _, _, _, _, _, _, _, _, _, _, _, _, _, _, _, _, _, _, _, _, _, _, _, _, _, _, _, _, _, _, _, _, _, _, _, _, _, ?_, rfl⟩
        exact ⟨i + 1, ⟨a5, Nn + 1, c5⟩, noS, xs ++ [⟨pa, dd, a1, bs, a2⟩], [], by omega, by omega, by go_num, R5.out, HSN.out, by show Nn + 1 ≤ i + 1; omega, by show 0 ≤ i + 1; omega, fun _ => ⟨rfl, rfl⟩⟩
      · have hb7 : ((vm : Int) != 4 + 3 * (m : Int)) = true := by simp only [bne_iff_ne, ne_eq]; omega
        have HP : Hid _ := refuse_box RQ.out BB.out (ps := p :: qs) (fun t ht => by obtain ⟨hq, hu⟩ := List.getElem?_eq_some_iff.1 HU.out; exact HSO.out.node_bad hq HKI.out (by rw [hu]; exact HT.out) HNV.out (.inr (.inr (.inr ⟨m, HV3.out, by rw [hvl]; exact hlen⟩))) t ht)
        rw [put6_def] at HP
        unfold noS zeroS spV at HP
        simp only at HP
        obtain ⟨r0, r1, r2, r3, r4, r5, rf⟩ := RQ.out
        simp only [zeroS, noS] at r0 r1 r2 r3 r4 r5
        go_wp2
        obtain ⟨q0, q1, q2, q3, q4, q5, _⟩ := HP.out.1
        (first | rw [Exit.noGoto_ret] | skip)
        refine bodyPost_ret (v := .tuple #[.agg #[.int .i64 0, .int .i64 0, .int .i64 0, .int .i64 0, .slice none 0 0, .slice none 0 0], .bool false]) ?_ rfl ⟨HP.out.2.1, HP.out.2.2⟩
        simp only [results, Tryz.results14]
        simp [go_sem, q0, q1, q2, q3, q4, q5]

end Go.Proofs.YtigomhilcnnjdaaGreat.Img
