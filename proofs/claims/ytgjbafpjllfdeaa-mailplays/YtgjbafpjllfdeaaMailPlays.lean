/- MailPlays: for every list of deeds: the statement's function returns true; nothing that was there is changed. No condition. -/
import Derived.Test.YtgjbafpjllfdeaaMailX3
import Derived.Test.YtgjbafpjllfdeaaMailEx
import Derived.Test.YtgjbafpjllfdeaaMailDeed
import Derived.Laws.Cover2
namespace Go.Proofs.Ytgjbafpjllfdeaa.mailPlays
open Go.ChangeShapes Go.WideShapes Go.ChangeAt Go.RowKit
open Go.ChangeMaps (open_string shut_string)
set_option linter.unusedVariables false

theorem own : ownKnob Try.prog.godebug = none := by kernel_rfl

section
variable {w0 w : World} {L : List (Nat × Option Obj)} {A1 A2 : Thing} {p q : Nat} {xs ys : ML}

theorem act2 {P : Program} {f : Nat} {args : Array Value} {R : Ending} {A2' : Thing} (h : Sep w0 L w A1 A2) (s1 : St A1) (H : ∀ O, A2 O w → Calls P f args w fun e w' => e = R ∧ A2' (Grow O w w') w' ∧ Stay O w w') : Calls P f args w fun e w' => e = R ∧ Sep w0 L w' A1 A2' :=
  (h.swap.act s1 H).mono fun e w' ⟨e1, e2⟩ => ⟨e1, e2.swap⟩

theorem addThing {w' : World} (h : Sep w0 L w A1 Non) (s1 : St A1) (hb : Below w.heap.size w w') {A2' : Thing} (h2 : A2' (fun k => w.heap.size ≤ k ∧ k < w'.heap.size) w') : Sep w0 L w' A1 A2' := by
  obtain ⟨O1, O2, e1, e2, e3, e4, e5, e6, e7⟩ := h.out
  refine ⟨O1, _, s1 _ (fun _ => False) _ _ e1 (Stay.of_below hb) (fun _ _ e => e), h2, fun k hk e => by have := (e4 k hk).2; omega, fun k hk => ⟨(e4 k hk).1, Nat.lt_of_lt_of_le (e4 k hk).2 hb.size⟩, fun k hk => ⟨Nat.le_trans e6.size hk.1, hk.2⟩, bel_tr e6 hb, fun q hq => ?_⟩
  obtain ⟨a, b, c, d⟩ := e7 q hq
  exact ⟨a, fun e => by omega, Nat.lt_of_lt_of_le c hb.size, (hb.block q.1 c).trans d⟩

theorem x_send (h : Sep w0 L w A1 (fun O w => XAt O w q xs)) (s1 : St A1) (t : Int) (d : ByteArray) (hle : xs.length ≤ 1000) (hd : d.size ≤ maxLen) (r : Int) (hr : sendE xs ⟨t, d⟩ = r) (hy : sendL xs ⟨t, d⟩ = ys) :
    Calls Try.prog 11 #[.pointer (some ⟨q, 0, none⟩), .agg #[.int .i64 t, .string d]] w fun e w' => e = .returned (.int .i64 r) ∧ Sep w0 L w' A1 (fun O w => XAt O w q ys) :=
  act2 h s1 (fun _ h1 => refSend_val h1 ⟨t, d⟩ hle hd r hr hy)
theorem x_twin (h : Sep w0 L w A1 (fun O w => XAt O w q xs)) (s1 : St A1) (i : Int) (hle : xs.length ≤ 1000) (hsm : ∀ x ∈ xs, x.1.d.size ≤ 4000) (r : Int) (hr : twinE xs i = r) (hy : twinL xs i = ys) :
    Calls Try.prog 15 #[.pointer (some ⟨q, 0, none⟩), .int .i64 i] w fun e w' => e = .returned (.int .i64 r) ∧ Sep w0 L w' A1 (fun O w => XAt O w q ys) :=
  act2 h s1 (fun _ h1 => refTwin_val h1 i hle hsm r hr hy)
theorem x_age (h : Sep w0 L w A1 (fun O w => XAt O w q xs)) (s1 : St A1) (t : Int) (hle : xs.length ≤ 1000) (hag : ∀ x ∈ xs, x.2 ≤ 1000000) (r : Int) (hr : (xs.length : Int) - ((keptL t xs).length : Int) = r) (hy : ageL t xs = ys) :
    Calls Try.prog 17 #[.pointer (some ⟨q, 0, none⟩), .int .i64 t] w fun e w' => e = .returned (.int .i64 r) ∧ Sep w0 L w' A1 (fun O w => XAt O w q ys) :=
  act2 h s1 (fun _ h1 => refAge_val h1 hle hag t r hr hy)
theorem x_take (h : Sep w0 L w A1 (fun O w => XAt O w q xs)) (s1 : St A1) (i : Int) (hle : xs.length ≤ 1000) (t : Int) (d : ByteArray) (v : Bool) (ho : (atM xs i).getD zeroM = ⟨t, d⟩) (hv : (atM xs i).isSome = v) (hy : takeL xs i = ys) :
    Calls Try.prog 13 #[.pointer (some ⟨q, 0, none⟩), .int .i64 i] w fun e w' => e = .returned (.tuple #[.agg #[.int .i64 t, .string d], .bool v]) ∧ Sep w0 L w' A1 (fun O w => XAt O w q ys) :=
  act2 h s1 (fun _ h1 => by have := refTake_val h1 i hle _ rfl hy; rw [ho, hv] at this; exact this)
theorem d_take (h : Sep w0 L w (fun O w => MAt O w p xs) A2) (s2 : St A2) (i : Int) (hle : xs.length ≤ 1000) (t : Int) (d : ByteArray) (v : Bool) (ho : (atM xs i).getD zeroM = ⟨t, d⟩) (hv : (atM xs i).isSome = v) (hy : takeL xs i = ys) :
    Calls Try.prog 12 #[.pointer (some ⟨p, 0, none⟩), .int .i64 i] w fun e w' => e = .returned (.tuple #[.agg #[.int .i64 t, .string d], .bool v]) ∧ Sep w0 L w' (fun O w => MAt O w p ys) A2 :=
  h.act s2 (fun _ h1 => by have := take_val h1 i hle _ rfl hy; rw [ho, hv] at this; exact this)

end

theorem x_row {w0 w w8 : World} {L : List (Nat × Option Obj)} {A1 : Thing} {q : Nat} {ys : ML} (h : Sep w0 L w A1 (fun O w => XAt O w q ys)) (hb : Below w.heap.size w w8) (N : Nat) (hN : ys.length = N) :
    ∃ xa xc xb, (∀ W, Below w8.heap.size w8 W → W.cell? ⟨q, 0, none⟩ = some (.slice xa N xc)) ∧ Msgs w8 xa xb (ys.map (·.1)) := by
  obtain ⟨O1, O2, _, h2, _⟩ := h.out
  obtain ⟨a0, c0, g0, a1, c1, g1, h2⟩ := h2.ex
  have h8 := h2.below hb
  have r0 := h8.r0
  rw [List.length_map, hN] at r0
  obtain ⟨b, hm, _⟩ := r0.msgs (by rw [List.length_map]; exact hN)
  refine ⟨a0, c0, b, fun W hW => ?_, hm⟩
  have := (h8.below hW).k0
  rw [List.length_map, hN] at this
  exact this

/-- What holds of the messages behind k deeds. -/
structure Inv (k : Nat) (xs : ML) : Prop where
  len : xs.length ≤ 50
  age : ∀ x ∈ xs, x.2 ≤ k
  data : ∀ x ∈ xs, x.1.d.size ≤ 4000

theorem inv_push {k : Nat} {xs : ML} (h : Inv k xs) (m : Msg) (hl : ¬ 50 ≤ xs.length) (hd : m.d.size ≤ 4000) : Inv (k + 1) (xs ++ [(m, 0)]) := by
  refine ⟨by rw [List.length_append]; simp; omega, fun x hx => ?_, fun x hx => ?_⟩
  · rcases List.mem_append.1 hx with hx | hx
    · have := h.age x hx; omega
    · rw [List.mem_singleton.1 hx]; exact Nat.zero_le _
  · rcases List.mem_append.1 hx with hx | hx
    · exact h.data x hx
    · rw [List.mem_singleton.1 hx]; exact hd
theorem inv_same {k : Nat} {xs : ML} (h : Inv k xs) : Inv (k + 1) xs := ⟨h.len, fun x hx => by have := h.age x hx; omega, h.data⟩
theorem inv_send {k : Nat} {xs : ML} (h : Inv k xs) (m : Msg) : Inv (k + 1) (sendL xs m) := by
  unfold sendL
  split
  · exact inv_same h
  · exact inv_push h m (by omega) (by omega)
theorem inv_twin {k : Nat} {xs : ML} (h : Inv k xs) (i : Int) : Inv (k + 1) (twinL xs i) := by
  unfold twinL
  cases ho : atM xs i with
  | none => exact inv_same h
  | some m =>
    simp only
    split
    · exact inv_same h
    · obtain ⟨j, _, hj, hm⟩ := atM_hit ho
      exact inv_push h m (by omega) (by rw [← hm]; exact h.data _ (List.getElem_mem hj))
theorem inv_take {k : Nat} {xs : ML} (h : Inv k xs) (i : Int) : Inv (k + 1) (takeL xs i) := by
  unfold takeL
  split
  · have hs : (xs.eraseIdx i.toNat).Sublist xs := List.eraseIdx_sublist ..
    exact ⟨Nat.le_trans hs.length_le h.len, fun x hx => by have := h.age x (hs.subset hx); omega, fun x hx => h.data x (hs.subset hx)⟩
  · exact inv_same h
theorem inv_age {k : Nat} {xs : ML} (h : Inv k xs) (t : Int) : Inv (k + 1) (ageL t xs) := by
  refine ⟨by rw [ageL_len]; exact Nat.le_trans (keptL_len t xs) h.len, fun x hx => ?_, fun x hx => ?_⟩
  · obtain ⟨y, hy, rfl⟩ := List.mem_map.1 hx
    have := h.age y (List.mem_filter.1 hy).1
    show y.2 + 1 ≤ k + 1
    omega
  · obtain ⟨y, hy, rfl⟩ := List.mem_map.1 hx
    exact h.data y (List.mem_filter.1 hy).1

set_option maxRecDepth 100000 in
set_option maxHeartbeats 4000000 in
theorem walk_b (a0 : Option Addr) (b0 off0 cap0 n0 : Nat) (us : List DeedM) (w : World) (hn0 : us.length = n0) (hU : Deeds w a0 b0 off0 us) :
    Calls Try.prog 3 #[.slice a0 n0 cap0] w fun e w' => e = .returned (.bool true) ∧ Below w.heap.size w w' := by
  have hx0 : n0 ≤ 9223372036854775807 := by have := hU.len; unfold maxLen at this; omega
  have HN : Hid _ := hn0
  have HU : Hid _ := hU
  clear hn0 hU
  go_enter Try.func3, Try.ntmps3
  go_wp2_with fail
  refine (examples_val _).mono ?_
  rintro e w1 ⟨rfl, b1⟩
  have B1 : Hid _ := b1
  clear b1
  go_wp2_with fail
  refine (s_new (w0 := w) B1.out).mono ?_
  rintro e w2 ⟨p, rfl, h2⟩
  have H2 : Hid (Sep w [] w2 (fun O w => MAt O w p []) Non) := h2
  clear h2 B1
  go_wp2
  have H3 : Hid (Sep w [] (w2.alloc (.cells #[.slice none 0 0, .slice none 0 0] 30)) (fun O w => MAt O w p []) (fun O w => XAt O w w2.heap.size [])) := by
    refine addThing H2.out (stM _ _) ((Below.refl _ w2).alloc (Nat.le_refl _) _) ?_
    exact ⟨none, 0, none, none, 0, none, fun k hk => hk.2, ⟨Nat.le_refl _, by simp⟩, World.cell?_alloc_new w2 _ _ 0, World.cell?_alloc_new w2 _ _ 1, World.frozen?_alloc_new w2 _ _ 0, World.frozen?_alloc_new w2 _ _ 1, .nil rfl rfl rfl, .nil rfl rfl rfl, by simp, by simp, fun k e => by cases e⟩
  generalize w2.alloc (.cells #[.slice none 0 0, .slice none 0 0] 30) = w3 at *
  generalize w2.heap.size = q at *
  clear H2
  go_loopw [6] (fun v wr => ∃ (k : Nat) (xs : ML), k ≤ n0 ∧ k ≤ 100 ∧ v = .int .i64 k ∧ Inv k xs ∧ Sep w [] wr (fun O w => MAt O w p xs) (fun O w => XAt O w q xs)) (fun v _ => 100 - (intOf v).toNat)
  case atStart => exact ⟨0, [], by omega, by omega, rfl, ⟨by simp, (fun x hx => nomatch hx), (fun x hx => nomatch hx)⟩, H3.out⟩
  case round =>
    obtain ⟨k, xs, hk1, hk2, rfl, hI, hS⟩ := hrel
    have HI : Hid (Inv k xs) := hI
    have HS : Hid (Sep w [] wr (fun O w => MAt O w p xs) (fun O w => XAt O w q xs)) := hS
    clear hI hS H3
    by_cases hlt : k < n0 ∧ k < 100
    · obtain ⟨hlt0, hlt1⟩ := hlt
      have hk0 : k < us.length := by rw [HN.out]; exact hlt0
      obtain rfl := HU.out.addr (by omega)
      obtain ⟨q0, q1, q2, q3⟩ := HU.out.cell k hk0
      have hok := HU.out.ok k hk0
      have g0 := bel_cell HS.out.bel q0
      have g1 := bel_cell HS.out.bel q1
      have g2 := bel_cell HS.out.bel q2
      have g3 := bel_cell HS.out.bel q3
      generalize us[k] = u at *
      obtain ⟨uk, ut, ud, un⟩ := u
      simp only [Nat.add_zero] at g0 g1 g2 g3
      have HOK : Hid (DeedOk ⟨uk, ut, ud, un⟩) := hok
      have HX : Hid (xs.length ≤ 1000) := Nat.le_trans HI.out.len (by omega)
      have hst := run_store_str
      clear q0 q1 q2 q3 hok hk0
      obtain ⟨Q, hQ⟩ : ∃ Q, keepN uk % 5 = Q := ⟨_, rfl⟩
      have hQ5 : Q < 5 := by rw [← hQ]; exact Nat.mod_lt _ (by omega)
      have HQ : Hid _ := hQ
      clear hQ
      go_wp2_with fail
      refine (pick_val uk 5 Q _ HOK.out.k (by omega) HQ.out).mono ?_
      rintro e w4 ⟨rfl, rfl⟩
      have H4 : Hid _ := HS.out.box (stM _ _) (stX _ _) (.cells #[.int .i64 uk, .int .i64 ut, .string ud, .int .i64 un] 34)
      have U1 : (wr.alloc (.cells #[.int .i64 uk, .int .i64 ut, .string ud, .int .i64 un] 34)).cell? ⟨wr.heap.size, 1, none⟩ = some (.int .i64 ut) := World.cell?_alloc_new wr _ _ 1
      have U2 : (wr.alloc (.cells #[.int .i64 uk, .int .i64 ut, .string ud, .int .i64 un] 34)).cell? ⟨wr.heap.size, 2, none⟩ = some (.string ud) := World.cell?_alloc_new wr _ _ 2
      have U3 : (wr.alloc (.cells #[.int .i64 uk, .int .i64 ut, .string ud, .int .i64 un] 34)).cell? ⟨wr.heap.size, 3, none⟩ = some (.int .i64 un) := World.cell?_alloc_new wr _ _ 3
      generalize wr.alloc (.cells #[.int .i64 uk, .int .i64 ut, .string ud, .int .i64 un] 34) = w5 at *
      generalize wr.heap.size = U at *
      clear HS g0 g1 g2 g3
      have hcs : Q = 0 ∨ Q = 1 ∨ Q = 2 ∨ Q = 3 ∨ Q = 4 := by omega
      clear hQ5
      rcases hcs with hc | hc | hc | hc | hc
      focus
        subst hc
        clear HQ
        go_wp2_with fail
        refine (s_send H4.out (stX _ _) ut ud HX.out HOK.out.d _ rfl (ys := sendL xs ⟨ut, ud⟩) rfl).mono ?_
        rintro e w6 ⟨rfl, h6⟩
        have V1 := h6.cell (.head _) rfl U1
        have V2 := h6.cell (.head _) rfl U2
        have H6 : Hid _ := h6
        clear h6 H4 U1 U2 U3
        go_wp2_with fail
        refine (x_send H6.out (stM _ _) ut ud HX.out HOK.out.d _ rfl (ys := sendL xs ⟨ut, ud⟩) rfl).mono ?_
        rintro e w7 ⟨rfl, h7⟩
        have HE : Hid (∃ ys, Inv (k + 1) ys ∧ Sep w [] w7 (fun O w => MAt O w p ys) (fun O w => XAt O w q ys)) := ⟨_, inv_send HI.out ⟨ut, ud⟩, h7.less (fun _ h => nomatch h)⟩
        clear h7 H6 V1 V2 HI HX
        generalize sendE xs ⟨ut, ud⟩ = rr at *
        go_wp2_with fail
      rotate_left
      focus
        subst hc
        clear HQ
        go_wp2_with fail
        refine (s_send H4.out (stX _ _) ut ud HX.out HOK.out.d _ rfl (ys := sendL xs ⟨ut, ud⟩) rfl).mono ?_
        rintro e w6 ⟨rfl, h6⟩
        have V1 := h6.cell (.head _) rfl U1
        have V2 := h6.cell (.head _) rfl U2
        have H6 : Hid _ := h6
        clear h6 H4 U1 U2 U3
        go_wp2_with fail
        refine (x_send H6.out (stM _ _) ut ud HX.out HOK.out.d _ rfl (ys := sendL xs ⟨ut, ud⟩) rfl).mono ?_
        rintro e w7 ⟨rfl, h7⟩
        have HE : Hid (∃ ys, Inv (k + 1) ys ∧ Sep w [] w7 (fun O w => MAt O w p ys) (fun O w => XAt O w q ys)) := ⟨_, inv_send HI.out ⟨ut, ud⟩, h7.less (fun _ h => nomatch h)⟩
        clear h7 H6 V1 V2 HI HX
        generalize sendE xs ⟨ut, ud⟩ = rr at *
        go_wp2_with fail
      rotate_left
      focus
        subst hc
        clear HQ
        obtain ⟨⟨mt, md⟩, hmo⟩ : ∃ m, (atM xs un).getD zeroM = m := ⟨_, rfl⟩
        obtain ⟨mv, hmv⟩ : ∃ v, (atM xs un).isSome = v := ⟨_, rfl⟩
        have HMO : Hid _ := hmo
        have HMS : Hid _ := hmv
        clear hmo hmv
        go_wp2_with fail
        refine (d_take H4.out (stX _ _) un HX.out mt md mv HMO.out HMS.out (ys := takeL xs un) rfl).mono ?_
        rintro e w6 ⟨rfl, h6⟩
        have V3 := cell_al (h6.cell (.head _) rfl U3)
        have H6 : Hid _ := h6.box (stM _ _) (stX _ _) (.cells #[.int .i64 mt, .string md] 32)
        clear h6 H4 U1 U2 U3
        go_wp2_with fail
        refine (x_take H6.out (stM _ _) un HX.out mt md mv HMO.out HMS.out (ys := takeL xs un) rfl).mono ?_
        rintro e w8 ⟨rfl, h8⟩
        have Y0 : ∀ o, (w8.alloc o).cell? ⟨w6.heap.size, 0, none⟩ = some (.int .i64 mt) := cell_al (h8.cell (.head _) rfl (World.cell?_alloc_new w6 _ _ 0))
        have Y1 : ∀ o, (w8.alloc o).cell? ⟨w6.heap.size, 1, none⟩ = some (.string md) := cell_al (h8.cell (.head _) rfl (World.cell?_alloc_new w6 _ _ 1))
        have HE : Hid (∃ ys, Inv (k + 1) ys ∧ Sep w [] (w8.alloc (.cells #[.int .i64 mt, .string md] 32)) (fun O w => MAt O w p ys) (fun O w => XAt O w q ys)) := ⟨_, inv_take HI.out un, (h8.below (stM _ _) (stX _ _) ((Below.refl _ w8).alloc (Nat.le_refl _) _)).less (fun _ h => nomatch h)⟩
        clear h8 H6 V3 HI HX HMO HMS
        go_wp2_with fail
        clear Y0 Y1
        generalize w8.alloc (.cells #[.int .i64 mt, .string md] 32) = w7 at *
      rotate_left
      focus
        subst hc
        clear HQ
        go_wp2_with fail
        refine (s_twin H4.out (stX _ _) un HX.out _ rfl (ys := twinL xs un) rfl).mono ?_
        rintro e w6 ⟨rfl, h6⟩
        have V3 := h6.cell (.head _) rfl U3
        have H6 : Hid _ := h6
        clear h6 H4 U1 U2 U3
        go_wp2_with fail
        refine (x_twin H6.out (stM _ _) un HX.out HI.out.data _ rfl (ys := twinL xs un) rfl).mono ?_
        rintro e w7 ⟨rfl, h7⟩
        have HE : Hid (∃ ys, Inv (k + 1) ys ∧ Sep w [] w7 (fun O w => MAt O w p ys) (fun O w => XAt O w q ys)) := ⟨_, inv_twin HI.out un, h7.less (fun _ h => nomatch h)⟩
        clear h7 H6 V3 HI HX
        generalize twinE xs un = rr at *
        go_wp2_with fail
      rotate_left
      focus
        subst hc
        clear HQ
        have HAG : Hid (∀ x ∈ xs, x.2 ≤ 1000000) := fun x hx => by have := HI.out.age x hx; omega
        obtain ⟨rr, hrr⟩ : ∃ rr, (xs.length : Int) - ((keptL un xs).length : Int) = rr := ⟨_, rfl⟩
        have HRR : Hid _ := hrr
        clear hrr
        go_wp2_with fail
        refine (s_age H4.out (stX _ _) un HX.out HAG.out rr HRR.out (ys := ageL un xs) rfl).mono ?_
        rintro e w6 ⟨rfl, h6⟩
        have V3 := h6.cell (.head _) rfl U3
        have H6 : Hid _ := h6
        clear h6 H4 U1 U2 U3
        go_wp2_with fail
        refine (x_age H6.out (stM _ _) un HX.out HAG.out rr HRR.out (ys := ageL un xs) rfl).mono ?_
        rintro e w7 ⟨rfl, h7⟩
        have HE : Hid (∃ ys, Inv (k + 1) ys ∧ Sep w [] w7 (fun O w => MAt O w p ys) (fun O w => XAt O w q ys)) := ⟨_, inv_age HI.out un, h7.less (fun _ h => nomatch h)⟩
        clear h7 H6 V3 HI HX HAG HRR
        go_wp2_with fail
      all_goals
        obtain ⟨ys, hIy, hSy⟩ := HE.out
        have HIY : Hid (Inv (k + 1) ys) := hIy
        have HSY : Hid (Sep w [] w7 (fun O w => MAt O w p ys) (fun O w => XAt O w q ys)) := hSy
        obtain ⟨N, hN⟩ : ∃ N, ys.length = N := ⟨_, rfl⟩
        have hN50 : N ≤ 50 := by rw [← hN]; exact hIy.len
        have HN2 : Hid (ys.length = N) := hN
        clear HE hIy hSy hN
        refine (s_all HSY.out N HN2.out (by omega)).mono ?_
        rintro e w8 ⟨oa, oc, og, rfl, hc, b8⟩
        have B8 : Hid (Below w7.heap.size w7 w8) := b8
        have HC8 : Hid (Cel (fun k => w7.heap.size ≤ k) w8 2 (.slice oa N oc) N (rowC msgC (ys.map (·.1))) og) := hc
        obtain ⟨xa, xc, xb, hxc, hxm⟩ := x_row HSY.out b8 N HN2.out
        have x8 := hxc w8 (Below.refl _ _)
        have HXC : Hid _ := hxc
        obtain ⟨ab, ham, _⟩ := hc.msgs (by rw [List.length_map]; exact HN2.out)
        have HMV : Hid _ := fun (_ : Unit) => messages_val oa ab oc xa xb xc N (ys.map (·.1)) w8 (by rw [List.length_map]; exact HN2.out) (by omega) ham hxm
        clear hc b8 hxm ham hxc
        go_wp2_with fail
        refine (HMV.out ()).mono ?_
        rintro e w9 ⟨rfl, d9, hw9⟩
        have B89 : Below w8.heap.size w8 w9 := by rw [hw9]; exact below_drewN (Below.refl _ _) d9
        have B9 : Hid (Below w7.heap.size w7 w9) := bel_tr B8.out B89
        have HC9 : Hid (Cel (fun k => w7.heap.size ≤ k) w9 2 (.slice oa N oc) N (rowC msgC (ys.map (·.1))) og) := HC8.out.below B89
        have x9 := HXC.out w9 B89
        have CL : Hid (∀ d, Calls Try.prog 20 #[.pointer (some ⟨p, 0, none⟩)] (w9.drewN d) fun e w' => e = .returned (.int .i64 (N : Int)) ∧ w' = w9.drewN d) := fun d => s_len (HSY.out.below (stM _ _) (stX _ _) (below_drewN B9.out d)) N HN2.out
        clear hw9 HMV x8 B89 HC8 B8 HXC
        go_wp2
        go_quiet ((go_at_call 20; exact Calls.quiet_of_same (CL.out _)))
        go_wp2
        go_loopw [21] (fun v wi => ∃ (j : Nat) (zs : List Msg), j ≤ N ∧ v = .int .i64 j ∧ zs.length = N ∧ Cel (fun k => w7.heap.size ≤ k) wi 2 (.slice oa N oc) N (rowC msgC zs) og ∧ Below w7.heap.size w7 wi) (fun v _ => N - (intOf v).toNat)
        case atStart => exact ⟨0, _, by omega, rfl, by rw [List.length_map]; exact HN2.out, HC9.out.below (below_drewN (Below.refl _ _) _), below_drewN B9.out _⟩
        case round =>
          obtain ⟨j, zs, hj, rfl, hzl, hC, hBj⟩ := hrel
          clear CL HC9 B9 x9
          by_cases hjN : j < N
          · obtain ⟨b, hoa, hog⟩ := hC.at2 (by omega)
            subst hoa hog
            have hcap := hC.cap2.1
            have l0 := hC.live (j * 2) (by omega)
            have l1 := hC.live (j * 2 + 1) (by omega)
            obtain ⟨v0, hv0⟩ := Option.isSome_iff_exists.1 l0.1
            obtain ⟨v1, hv1⟩ := Option.isSome_iff_exists.1 l1.1
            have f0 := l0.2
            have f1 := l1.2
            have X : Hid (Cel (fun k => w7.heap.size ≤ k) ((wr.setCell ⟨b, j * 2, none⟩ (.int .i64 9)).setCell ⟨b, j * 2 + 1, none⟩ (.string ⟨#[]⟩)) 2 (.slice (some ⟨b, 0, none⟩) N oc) N (rowC msgC (zs.set j ⟨9, ⟨#[]⟩⟩)) (some b) ∧ Below w7.heap.size w7 ((wr.setCell ⟨b, j * 2, none⟩ (.int .i64 9)).setCell ⟨b, j * 2 + 1, none⟩ (.string ⟨#[]⟩))) :=
              ⟨hC.setElem wideM hzl j hjN ⟨9, ⟨#[]⟩⟩, hBj.trans ((Stay.setCells (O := fun i => i = b) b (j * 2) (msgC ⟨9, ⟨#[]⟩⟩) wr rfl).below hBj.size (fun k hk => by rw [hk]; exact hC.lt.2))⟩
            have HZL : Hid _ := hzl
            clear hC l0 l1 hBj hcap hzl
            go_wp2
            go_roundw
            case rel => exact ⟨j + 1, _, by omega, by go_num, by rw [List.length_set]; exact HZL.out, X.out.1, X.out.2⟩
            case measure => simp [intOf]; omega
          · obtain rfl : j = N := by omega
            have hgd : decide ((j : Int) < (j : Int)) = false := decide_eq_false (by omega)
            have HF : Hid (Sep w [] wr (fun O w => MAt O w p ys) (fun O w => XAt O w q ys)) := HSY.out.below (stM _ _) (stX _ _) hBj
            clear hjN hC hBj hzl
            go_wp2
            go_roundw
            case rel => exact ⟨k + 1, ys, by omega, by omega, by go_num, HIY.out, HF.out⟩
            case measure => simp [intOf]; omega
    · have hex : n0 ≤ k ∨ (k < n0 ∧ 100 ≤ k) := by omega
      clear hlt
      rcases hex with c1 | ⟨c1, c2⟩
      all_goals
        go_wp2
        go_ret
        exact ⟨rfl, HS.out.bel⟩

theorem walk (a0 : Option Addr) (b0 off0 cap0 : Nat) (us : List DeedM) (w : World) (w0 : Deeds w a0 b0 off0 us) :
    Calls Try.prog 3 #[.slice a0 us.length cap0] w fun e w' => e = .returned (.bool true) ∧ Below w.heap.size w w' :=
  walk_b a0 b0 off0 cap0 _ us w rfl w0

set_option maxRecDepth 100000 in
theorem lifted (os : Os) (started : os.Started) (H : Type) (enc : TypeId × Value → H) :
    ReturnsInHanded {} Try.checked os 3 .any (Rows.mailPlaysSpec.pre6 enc Try.prog Try.f3 Rows.mailPlaysRow.domain false) (Rows.mailPlaysSpec.post enc Try.prog Try.f3 false true false false) := by
  refine returnsInHanded_of_change (C := Try.checked) own started (by kernel_rfl) Try.func3
    (ChangeSpec.witness6 (enc := enc) (C := Try.checked) false ⟨#[], #[.slice none 0 0], []⟩ 8 (by kernel_rfl) (by kernel_rfl) (by kernel_rfl) (by kernel_rfl)) ?_
  intro W base args ds gs before hval0 hW hcnd _
  have hval : ∀ (j : Nat) t v, Try.f3.params[j]? = some t → args[j]? = some v → Value.okWide Try.prog W .any base t v := hval0
  have hW' := hW
  obtain ⟨p, q, hA0, hV, rfl, hfz, hnd⟩ := hW
  have hA : DataW.TrodAll enc Try.prog W 0 (fun _ => true) true Try.f3.params.toList args.toList ds p := hA0
  rw [Try.params3] at hA hval
  obtain ⟨v0, vs0, d0, ds0, p0, q0, hargs, rfl, rfl, h0, r0⟩ := trodAll_cons hA
  obtain ⟨rfl, rfl, rfl⟩ := trodAll_nil r0
  obtain rfl : args = #[v0] := by cases args; simp_all
  obtain ⟨rfl, rfl⟩ := trodVars_none hV
  obtain ⟨a0, len0, cap0, rfl⟩ := okWide_slice Try.underlying22 (hval 0 22 v0 rfl rfl)
  have k0 := h0
  have lt0 : ∀ x ∈ p0, x.block < W.heap.size := by obtain ⟨m, hm⟩ := k0; exact DataW.trod_lt m _ _ _ hm
  obtain ⟨b0, off0, ss0, rfl, w0⟩ := open_mails h0
  clear hA0 hval0
  refine (walk a0 b0 off0 cap0 ss0 W w0).mono fun e W' ⟨he, bel⟩ => ?_
  subst he
  exact ⟨_, rfl, _, _, _, [], _, [], hW', trodAll_mk1 (shut_bool Try.underlying4 _), (trodAll_cons_mk (Below.trod laidOut (by kernel_rfl) (of_decide_eq_true (by kernel_rfl)) k0 bel lt0) trodAll_mk0), rfl, bel.frame _, fun h => by cases h⟩

theorem over : Rows.mailPlaysRow.holds Try.pinned (OpenSpec.ofChange Rows.mailPlaysSpec) :=
  OpenClaim.holds_of_wide 3 Try.f3 rfl rfl rfl rfl rfl rfl rfl ⟨rfl, rfl, rfl, rfl, rfl⟩ rfl rfl rfl rfl rfl (by kernel_rfl) Try.func3 (by kernel_rfl)
    (of_decide_eq_true (by kernel_rfl)) (by unfold Func.isWrapper; first | (rw [if_pos (by decide +kernel)]; kernel_rfl) | (rw [if_neg (by decide +kernel)]; exact ⟨rfl, rfl⟩))
    (fun os started H enc _ => lifted os started H enc)
end Go.Proofs.Ytgjbafpjllfdeaa.mailPlays

namespace Go.Proofs.Ytgjbafpjllfdeaa
/-- The statement. -/
theorem mailPlays_holds : Rows.MailPlaysSaid := mailPlays.over
#print axioms mailPlays_holds
end Go.Proofs.Ytgjbafpjllfdeaa
