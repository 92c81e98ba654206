/- Part 36 of the proof: ImageR6, ImageR8. -/
import Derived.Test.YtigomhilcnnjdaaGreatB35
import Derived.Deep.Cut
import Derived.Deep.LoopGhost
import Derived.Deep.RegionLaw
import Derived.Deep.RegionWith

/- The contract of ref12.read: of no parts. -/
namespace Go.Proofs.YtigomhilcnnjdaaGreat.Img
open Go.RowKit Go.Proofs.YtigomhilcnnjdaaGreat Go.Proofs.YtigomhilcnnjdaaGreat.Smm
open Go.Proofs.YtigomhilcnnjdaaGreat.Spa (Sp RtS zeroS newS spV SpIn SpC put6 put6_at put6_def noS bel_put6)
open Go.Proofs.YtigomhilcnnjdaaGreat.Lea (LS Ls LL LO)
open Go.Proofs.YtigomhilcnnjdaaGreat.Edi (numsB NO Nm bel_tr bel_al bel_cell bel_drew)
open Go.Proofs.YtigomhilcnnjdaaGreat.Wir (app_assoc app_size app_list size_list)
open Go.WideShapes (bytes_inj)

set_option maxRecDepth 100000 in
set_option maxHeartbeats 4000000 in
theorem refRead_none {a : Option Addr} {c : Nat} {w : World} :
    Calls Tryz.prog 14 #[.slice a 0 c] w fun e w' => RRead w.heap.size [] e w' ∧ Below w.heap.size w w' := by
  have HZ : Hid (∀ W, SpC W w.heap.size zeroS noS noS → Below w.heap.size w W → SpC (put6 W w.heap.size zeroS noS noS) w.heap.size zeroS noS noS ∧ RRead w.heap.size [] (.returned (.tuple #[spV zeroS noS noS, .bool false])) (put6 W w.heap.size zeroS noS noS) ∧ Below w.heap.size w (put6 W w.heap.size zeroS noS noS)) := fun W h1 h2 => ⟨(put6_at h1 _ _ _).1, RRead.no (fun t _ e => by unfold partsS at e; cases e) _, bel_stay h2 (put6_at h1 _ _ _).2 (fun k hk => by rw [hk]; exact Nat.le_refl _)⟩
  have hst2 : ∀ (w : World) (a : Addr) (x : Option Addr) (n c : Nat) (m : Mode), (store a (.slice x n c) m).run Tryz.prog w = stored Tryz.prog w a (.slice x n c) m := fun w a x n c m => run_store_any w a _ m rfl
  have R0 : Hid (SpC (w.alloc (.cells #[.int .i64 0, .int .i64 0, .int .i64 0, .int .i64 0, .slice none 0 0, .slice none 0 0] 26)) w.heap.size zeroS noS noS) := SpC.new w 26 zeroS noS noS
  have B0 : Hid (Below w.heap.size w (w.alloc (.cells #[.int .i64 0, .int .i64 0, .int .i64 0, .int .i64 0, .slice none 0 0, .slice none 0 0] 26))) := bel_al _ _
  go_enter Tryz.func14, Tryz.ntmps14
  go_upto_region 1 with fail
  generalize w.alloc (.cells #[.int .i64 0, .int .i64 0, .int .i64 0, .int .i64 0, .slice none 0 0, .slice none 0 0] 26) = W0 at *
  have HP : Hid _ := HZ.out W0 R0.out B0.out
  clear HZ
  rw [put6_def] at HP
  unfold noS zeroS spV at HP
  simp only at HP
  obtain ⟨r0, r1, r2, r3, r4, r5, rf⟩ := R0.out
  simp only [zeroS, noS] at r0 r1 r2 r3 r4 r5
  go_wp2
  obtain ⟨q0, q1, q2, q3, q4, q5, _⟩ := HP.out.1
  refine bodyPost_ret (v := .tuple #[.agg #[.int .i64 0, .int .i64 0, .int .i64 0, .int .i64 0, .slice none 0 0, .slice none 0 0], .bool false]) ?_ rfl ⟨HP.out.2.1, HP.out.2.2⟩
  simp only [results, Tryz.results14]
  simp [go_sem, q0, q1, q2, q3, q4, q5]

/-- The refusal, in the result's box. -/
theorem refuse_box {w W : World} {ps : List ByteArray} (h1 : SpC W w.heap.size zeroS noS noS) (h2 : Below w.heap.size w W) (h3 : ∀ t, FitS t → ps ≠ partsS t) : SpC (put6 W w.heap.size zeroS noS noS) w.heap.size zeroS noS noS ∧ RRead w.heap.size ps (.returned (.tuple #[spV zeroS noS noS, .bool false])) (put6 W w.heap.size zeroS noS noS) ∧ Below w.heap.size w (put6 W w.heap.size zeroS noS noS) :=
  ⟨(put6_at h1 _ _ _).1, RRead.no h3 _, bel_stay h2 (put6_at h1 _ _ _).2 (fun k hk => by rw [hk]; exact Nat.le_refl _)⟩

end Go.Proofs.YtigomhilcnnjdaaGreat.Img

/- The loop of ref12.read: its body, its frame, what holds ahead of a round. -/
namespace Go.Proofs.YtigomhilcnnjdaaGreat.Img
open Go.RowKit Go.Proofs.YtigomhilcnnjdaaGreat Go.Proofs.YtigomhilcnnjdaaGreat.Smm
open Go.Proofs.YtigomhilcnnjdaaGreat.Spa (Sp RtS zeroS newS spV SpIn SpC put6 put6_at put6_def noS bel_put6)
open Go.Proofs.YtigomhilcnnjdaaGreat.Lea (LS Ls LL LO lsC)
open Go.Proofs.YtigomhilcnnjdaaGreat.Edi (numsB NO Nm bel_tr bel_al bel_cell bel_drew)
open Go.Proofs.YtigomhilcnnjdaaGreat.Wir (app_assoc app_size app_list size_list takeT)
open Go.WideShapes (bytes_inj)
set_option linter.unusedVariables false

def firstLoop : Code → Option Code
  | .loop c => some c
  | .seq a b => match firstLoop a with
    | some c => some c
    | none => firstLoop b
  | .block _ c => firstLoop c
  | .scope c => firstLoop c
  | .cond _ a b => match firstLoop a with
    | some c => some c
    | none => firstLoop b
  | _ => none
noncomputable def rdBody : Code := ((Tryz.f14.body.bind firstLoop).getD .skip)
/-- What the first part's numbers say. -/
theorem first_no {p : ByteArray} {qs : List ByteArray} {zs : List Int} {v : Bool} (h : NumOf (p.extract 1 p.size) zs v) {n : Nat} (hn : qs.length = n) (hk : n ≤ 900000000) (hbad : v = false ∨ zs.length ≠ 6 ∨ (∃ z, zs[4]? = some z ∧ z < 0) ∨ (∃ z, zs[5]? = some z ∧ z < 0) ∨ (∃ y z, zs[4]? = some y ∧ zs[5]? = some z ∧ y + z ≠ (n : Int))) : ∀ t, FitS t → p :: qs ≠ partsS t := by
  intro t ht e
  obtain ⟨h1, h2, h3⟩ := head_is h ht e
  have hl := congrArg List.length h3
  rw [List.length_append, List.length_map, List.length_map, hn] at hl
  subst h2
  unfold headZ at hbad
  rcases hbad with hb | hb | ⟨z, hz, hb⟩ | ⟨z, hz, hb⟩ | ⟨y, z, hy, hz, hb⟩
  · rw [h1] at hb; cases hb
  · exact hb rfl
  · simp at hz; omega
  · simp at hz; omega
  · simp at hy hz; omega


def RdRel (w : World) (b n c Hb hc6 Q k : Nat) (p : ByteArray) (qs : List ByteArray) (z0 z1 z2 z3 : Int) (v7 : Value) (wr : World) : Prop := ∃ (i : Nat) (N L : RS) (xs : NS) (ys : LS), 1 ≤ i ∧ i ≤ 1 + n ∧ v7 = .int .i64 i ∧ Rd w Q Hb wr z0 z1 z2 z3 k xs ys N L ∧ Sofar p qs z0 z1 z2 z3 k (i - 1) xs ys ∧ N.n ≤ i ∧ L.n ≤ i ∧ (i ≤ k + 1 → ys = [] ∧ L = noS)
set_option maxRecDepth 1000000 in
def RdWI (w : World) (b n c Hb hc6 Q k : Nat) (p : ByteArray) (qs : List ByteArray) (z0 z1 z2 z3 : Int) (c1 c5 c17 c18 c19 c20 c21 c22 c23 c24 c25 c26 c27 c28 c29 c30 c31 c32 c33 c34 c35 c36 c37 c38 c39 c40 c41 c42 c43 c44 c45 c46 c47 c48 c49 c50 c51 c52 c53 c54 c55 c56 c57 c58 c59 c60 c61 c62 c63 c64 c65 c66 c67 c68 c69 c70 c71 c72 c73 c74 c75 c76 c77 c78 c79 c80 c81 c82 c83 c84 c85 c86 c87 c88 c225 : Value) (a : Act) (w' : World) : Prop := ∃ u3 u7 u8 u9 u10 u11 u12 u13 u14 u15 u16 u89 u90 u91 u92 u93 u94 u95 u96 u97 u98 u99 u100 u101 u102 u103 u104 u105 u106 u107 u108 u109 u110 u111 u112 u113 u114 u115 u116 u117 u118 u119 u120 u121 u122 u123 u124 u125 u126 u127 u128 u129 u130 u131 u132 u133 u134 u135 u136 u137 u138 u139 u140 u141 u142 u143 u144 u145 u146 u147 u148 u149 u150 u151 u152 u153 u154 u155 u156 u157 u158 u159 u160 u161 u162 u163 u164 u165 u166 u167 u168 u169 u170 u171 u172 u173 u174 u175 u176 u177 u178 u179 u180 u181 u182 u183 u184 u185 u186 u187 u188 u189 u190 u191 u192 u193 u194 u195 u196 u197 u198 u199 u200 u201 u202 u203 u204 u205 u206 u207 u208 u209 u210 u211 u212 u213 u214 u215 u216 u217 u218 u219 u220 u221 u222 u223 u224 : Value, RdRel w b n c Hb hc6 Q k p qs z0 z1 z2 z3 u7 w' ∧ a = ⟨#[(.slice (some ⟨b, 0, none⟩) (1 + n) (1 + c)), c1, (.pointer (some ⟨w.heap.size, 0, none⟩)), u3, (.slice (some ⟨Hb, 0, none⟩) 6 hc6), c5, (.pointer (some ⟨Q, 0, none⟩)), u7, u8, u9, u10, u11, u12, u13, u14, u15, u16, c17, c18, c19, c20, c21, c22, c23, c24, c25, c26, c27, c28, c29, c30, c31, c32, c33, c34, c35, c36, c37, c38, c39, c40, c41, c42, c43, c44, c45, c46, c47, c48, c49, c50, c51, c52, c53, c54, c55, c56, c57, c58, c59, c60, c61, c62, c63, c64, c65, c66, c67, c68, c69, c70, c71, c72, c73, c74, c75, c76, c77, c78, c79, c80, c81, c82, c83, c84, c85, c86, c87, c88, u89, u90, u91, u92, u93, u94, u95, u96, u97, u98, u99, u100, u101, u102, u103, u104, u105, u106, u107, u108, u109, u110, u111, u112, u113, u114, u115, u116, u117, u118, u119, u120, u121, u122, u123, u124, u125, u126, u127, u128, u129, u130, u131, u132, u133, u134, u135, u136, u137, u138, u139, u140, u141, u142, u143, u144, u145, u146, u147, u148, u149, u150, u151, u152, u153, u154, u155, u156, u157, u158, u159, u160, u161, u162, u163, u164, u165, u166, u167, u168, u169, u170, u171, u172, u173, u174, u175, u176, u177, u178, u179, u180, u181, u182, u183, u184, u185, u186, u187, u188, u189, u190, u191, u192, u193, u194, u195, u196, u197, u198, u199, u200, u201, u202, u203, u204, u205, u206, u207, u208, u209, u210, u211, u212, u213, u214, u215, u216, u217, u218, u219, u220, u221, u222, u223, u224, c225], []⟩
def RdMu (n : Nat) (a : Act) (_ : World) : Nat := 1 + n - (intOf (a.tmps[7]?.getD (.bool false))).toNat
def RdEnd (w : World) (b n c Hb hc6 Q k : Nat) (p : ByteArray) (qs : List ByteArray) (z0 z1 z2 z3 : Int) (wr : World) : Prop := ∃ (N L : RS) (xs : NS) (ys : LS), Rd w Q Hb wr z0 z1 z2 z3 k xs ys N L ∧ Sofar p qs z0 z1 z2 z3 k n xs ys
set_option maxRecDepth 1000000 in
def RdWX (w : World) (b n c Hb hc6 Q k : Nat) (p : ByteArray) (qs : List ByteArray) (z0 z1 z2 z3 : Int) (c1 c5 c17 c18 c19 c20 c21 c22 c23 c24 c25 c26 c27 c28 c29 c30 c31 c32 c33 c34 c35 c36 c37 c38 c39 c40 c41 c42 c43 c44 c45 c46 c47 c48 c49 c50 c51 c52 c53 c54 c55 c56 c57 c58 c59 c60 c61 c62 c63 c64 c65 c66 c67 c68 c69 c70 c71 c72 c73 c74 c75 c76 c77 c78 c79 c80 c81 c82 c83 c84 c85 c86 c87 c88 c225 : Value) (a : Act) (w' : World) : Prop := ∃ u3 u7 u8 u9 u10 u11 u12 u13 u14 u15 u16 u89 u90 u91 u92 u93 u94 u95 u96 u97 u98 u99 u100 u101 u102 u103 u104 u105 u106 u107 u108 u109 u110 u111 u112 u113 u114 u115 u116 u117 u118 u119 u120 u121 u122 u123 u124 u125 u126 u127 u128 u129 u130 u131 u132 u133 u134 u135 u136 u137 u138 u139 u140 u141 u142 u143 u144 u145 u146 u147 u148 u149 u150 u151 u152 u153 u154 u155 u156 u157 u158 u159 u160 u161 u162 u163 u164 u165 u166 u167 u168 u169 u170 u171 u172 u173 u174 u175 u176 u177 u178 u179 u180 u181 u182 u183 u184 u185 u186 u187 u188 u189 u190 u191 u192 u193 u194 u195 u196 u197 u198 u199 u200 u201 u202 u203 u204 u205 u206 u207 u208 u209 u210 u211 u212 u213 u214 u215 u216 u217 u218 u219 u220 u221 u222 u223 u224 : Value, RdEnd w b n c Hb hc6 Q k p qs z0 z1 z2 z3 w' ∧ a = ⟨#[(.slice (some ⟨b, 0, none⟩) (1 + n) (1 + c)), c1, (.pointer (some ⟨w.heap.size, 0, none⟩)), u3, (.slice (some ⟨Hb, 0, none⟩) 6 hc6), c5, (.pointer (some ⟨Q, 0, none⟩)), u7, u8, u9, u10, u11, u12, u13, u14, u15, u16, c17, c18, c19, c20, c21, c22, c23, c24, c25, c26, c27, c28, c29, c30, c31, c32, c33, c34, c35, c36, c37, c38, c39, c40, c41, c42, c43, c44, c45, c46, c47, c48, c49, c50, c51, c52, c53, c54, c55, c56, c57, c58, c59, c60, c61, c62, c63, c64, c65, c66, c67, c68, c69, c70, c71, c72, c73, c74, c75, c76, c77, c78, c79, c80, c81, c82, c83, c84, c85, c86, c87, c88, u89, u90, u91, u92, u93, u94, u95, u96, u97, u98, u99, u100, u101, u102, u103, u104, u105, u106, u107, u108, u109, u110, u111, u112, u113, u114, u115, u116, u117, u118, u119, u120, u121, u122, u123, u124, u125, u126, u127, u128, u129, u130, u131, u132, u133, u134, u135, u136, u137, u138, u139, u140, u141, u142, u143, u144, u145, u146, u147, u148, u149, u150, u151, u152, u153, u154, u155, u156, u157, u158, u159, u160, u161, u162, u163, u164, u165, u166, u167, u168, u169, u170, u171, u172, u173, u174, u175, u176, u177, u178, u179, u180, u181, u182, u183, u184, u185, u186, u187, u188, u189, u190, u191, u192, u193, u194, u195, u196, u197, u198, u199, u200, u201, u202, u203, u204, u205, u206, u207, u208, u209, u210, u211, u212, u213, u214, u215, u216, u217, u218, u219, u220, u221, u222, u223, u224, c225], []⟩

end Go.Proofs.YtigomhilcnnjdaaGreat.Img
