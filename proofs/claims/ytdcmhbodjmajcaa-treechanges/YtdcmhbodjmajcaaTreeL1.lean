/- The contracts of tabulariumlaw07.texts, blocks, node, nodes (where both are the same), dir, file, base. -/
import Derived.Test.YtdcmhbodjmajcaaTreeFE
import Derived.Test.YtdcmhbodjmajcaaTreeEx
namespace Go.Proofs.Ytdcmhbodjmajcaa
open Go.RowKit

set_option maxRecDepth 100000 in
set_option maxHeartbeats 1000000 in
theorem texts_same (a a' : Option Addr) (b off cap b' off' cap' n : Nat) (ss : List ByteArray) (w : World) (hS : Strs w a b off ss) (hS' : Strs w a' b' off' ss) (hn : ss.length = n) :
    Calls Try.prog 12 #[.slice a n cap, .slice a' n cap'] w fun e w' => e = .returned (.bool true) ∧ Below w.heap.size w w' := by
  subst hn
  have hm := hS.len
  unfold maxLen at hm
  go_enter Try.func12, Try.ntmps12
  go_wp2
  go_loopw [5] (fun c wr => ∃ k n : Nat, k ≤ ss.length ∧ c = .int .i64 k ∧ wr = w.drewN n) (fun c _ => ss.length - (intOf c).toNat)
  case atStart => exact ⟨0, 0, by omega, rfl, rfl⟩
  case round =>
    obtain ⟨k, n, hk, rfl, rfl⟩ := hrel
    by_cases hlt : k < ss.length
    · obtain rfl := hS.addr (by omega)
      obtain rfl := hS'.addr (by omega)
      have hc1 : ∀ m, (w.drewN m).cell? ⟨b, off + k, none⟩ = some (.string ss[k]) := fun _ => hS.cell k hlt
      have hc2 : ∀ m, (w.drewN m).cell? ⟨b', off' + k, none⟩ = some (.string ss[k]) := fun _ => hS'.cell k hlt
      have hlt' : (k : Int) < (ss.length : Int) := by omega
      clear hS hS'
      go_wp2
      refine wp_region_quiet_lit (by kernel_rfl) (by kernel_rfl) ?_
      repeat (first | go_big_quiet_step (fail) | quiet_step (fail))
      refine wpQuiet_nil ?_
      rintro _ ⟨nq, rfl⟩
      go_wp2
      go_roundw
      case rel => exact ⟨k + 1, n + nq, by omega, by go_num, by simp [World.drewN]⟩
      case measure => simp [intOf]; omega
    · go_wp2
      go_ret
      exact ⟨rfl, bel_drewN _ _⟩

set_option maxRecDepth 100000 in
set_option maxHeartbeats 1000000 in
theorem blocks_same (s s' : RS) (n : Nat) (bs : List Blk) (w : World) (h1 : Blks w s bs) (h2 : Blks w s' bs) (hn : s.n = n) (hn' : s'.n = n) :
    Calls Try.prog 73 #[.slice s.a n s.c, .slice s'.a n s'.c] w fun e w' => e = .returned (.bool true) ∧ Below w.heap.size w w' := by
  obtain ⟨a, m, c⟩ := s
  obtain ⟨a', m', c'⟩ := s'
  simp only at hn hn'
  subst hn
  subst hn'
  have hm := h1.lid
  unfold maxLen at hm
  have hl := h1.len
  have HN : Hid (bs.length = m') := hl
  have H1 : Hid _ := h1
  have H2 : Hid _ := h2
  simp only at hm ⊢
  clear h1 h2 hl
  go_enter Try.func73, Try.ntmps73
  go_wp2
  go_loopw [5] (fun v wr => ∃ i d : Nat, i ≤ m' ∧ v = .int .i64 i ∧ wr = w.drewN d) (fun v _ => m' - (intOf v).toNat)
  case atStart => exact ⟨0, 0, by omega, rfl, rfl⟩
  case round =>
    obtain ⟨i, d, hi, rfl, hd⟩ := hrel
    by_cases hlt : i < m'
    · have e1 : i < bs.length := by rw [HN.out]; exact hlt
      have hb : Below w.heap.size w wr := by rw [hd]; exact bel_drewN _ _
      obtain ⟨b, off, ha, hc⟩ := (H1.out.below hb).cells (by show 0 < m'; omega)
      obtain ⟨b', off', ha', hc'⟩ := (H2.out.below hb).cells (by show 0 < m'; omega)
      simp only at ha ha'
      subst ha
      subst ha'
      have k1 := hc i e1
      have k2 := hc' i e1
      generalize bs[i] = x at *
      obtain ⟨x1, x2, x3⟩ := x
      have q0 : wr.cell? ⟨b, off + i * 3, none⟩ = some (.int .i64 x1) := k1 0 _ rfl
      have q1 : wr.cell? ⟨b, off + i * 3 + 1, none⟩ = some (.int .i64 x2) := k1 1 _ rfl
      have q2 : wr.cell? ⟨b, off + i * 3 + 2, none⟩ = some (.int .i64 x3) := k1 2 _ rfl
      have r0 : wr.cell? ⟨b', off' + i * 3, none⟩ = some (.int .i64 x1) := k2 0 _ rfl
      have r1 : wr.cell? ⟨b', off' + i * 3 + 1, none⟩ = some (.int .i64 x2) := k2 1 _ rfl
      have r2 : wr.cell? ⟨b', off' + i * 3 + 2, none⟩ = some (.int .i64 x3) := k2 2 _ rfl
      have HD : Hid _ := hd
      clear hd k1 k2 hc hc' hb H1 H2
      go_wp2
      go_quiet (fail)
      go_wp2
      go_roundw
      case rel => exact ⟨i + 1, d + nq, by omega, by go_num, by rw [HD.out, World.drewN_drewN]⟩
      case measure => simp [intOf]; omega
    · have hge : m' ≤ i := by omega
      have HD : Hid _ := hd
      clear hlt hd
      go_wp2
      go_ret
      exact ⟨rfl, by rw [HD.out]; exact bel_drewN _ _⟩

set_option maxRecDepth 100000 in
set_option maxHeartbeats 1000000 in
theorem node_same (x y : NR) (w : World) (hx : NdOk w x) (hy : NdOk w y) (he : x.1 = y.1) :
    Calls Try.prog 53 #[ndV x, ndV y] w fun e w' => e = .returned (.bool true) ∧ Below w.heap.size w w' := by
  obtain ⟨⟨p, d, q, bs, wr⟩, ⟨a, n, c⟩⟩ := x
  obtain ⟨x2, ⟨a', n', c'⟩⟩ := y
  simp only at he
  subst he
  have hn : n' = n := by
    have h1 : bs.length = n := hx.bs.len
    have h2 : bs.length = n' := hy.bs.len
    omega
  subst hn
  have CB : Hid (∀ W, Below w.heap.size w W → Calls Try.prog 73 #[.slice a n' c, .slice a' n' c'] W fun e w' => e = .returned (.bool true) ∧ Below W.heap.size W w') := fun W hb => blocks_same ⟨a, n', c⟩ ⟨a', n', c'⟩ n' bs W (hx.bs.below hb) (hy.bs.below hb) rfl rfl
  unfold ndV
  simp only
  clear hx hy
  go_enter Try.func53, Try.ntmps53
  go_wp2_with fail
  refine (CB.out _ (bel_tr (bel_al _ _) (bel_al _ _))).mono ?_
  rintro e w1 ⟨rfl, c1⟩
  obtain ⟨q1, _, q3, _, q5, _⟩ := two_boxes c1
  have y0 := q1 0 _ rfl
  have y1 := q1 1 _ rfl
  have y2 := q1 2 _ rfl
  have y4 := q1 4 _ rfl
  have z0 := q3 0 _ rfl
  have z1 := q3 1 _ rfl
  have z2 := q3 2 _ rfl
  have z4 := q3 4 _ rfl
  have HB : Hid (Below w.heap.size w w1) := q5
  clear c1 q1 q3 q5
  go_wp2
  go_ret
  exact ⟨rfl, HB.out⟩

set_option maxRecDepth 100000 in
set_option maxHeartbeats 1000000 in
theorem nodes_same {a a' : Option Addr} {n c c' : Nat} {xs : NS} {w : World} (h : NL w a n xs) (h' : NL w a' n xs) :
    Calls Try.prog 22 #[.slice a n c, .slice a' n c'] w fun e w' => e = .returned (.bool true) ∧ Below w.heap.size w w' := by
  have hlid := h.lid
  unfold maxLen at hlid
  obtain ⟨b, off, ps, k1, k2, k3⟩ := h.ex
  obtain ⟨b', off', ps', k1', k2', k3'⟩ := h'.ex
  have HP : Hid (ps.length = n) := by show ps.length = n; rw [← k2, ← k1, List.length_map]
  have HP' : Hid (ps'.length = n) := by show ps'.length = n; rw [← k2, ← k1', List.length_map]
  have HEQ : Hid (∀ i (hi : i < ps.length) (hi' : i < ps'.length), ps[i].1 = ps'[i].1) := fun i hi hi' => by
    have e1 : (ps.map (·.1))[i]? = (ps'.map (·.1))[i]? := by rw [k1, k1']
    rw [List.getElem?_map, List.getElem?_map, List.getElem?_eq_getElem hi, List.getElem?_eq_getElem hi'] at e1
    simpa using e1
  have HK : Hid (Nds w a b off ps) := k3
  have HK' : Hid (Nds w a' b' off' ps') := k3'
  clear h h' k1 k2 k3 k1' k2' k3'
  go_enter Try.func22, Try.ntmps22
  go_wp2
  go_loopw [5, 6] (fun v _ wr => ∃ i : Nat, i ≤ n ∧ v = .int .i64 i ∧ Below w.heap.size w wr) (fun v _ _ => n - (intOf v).toNat)
  case atStart => exact ⟨0, by omega, rfl, Below.refl _ _⟩
  case round =>
    obtain ⟨i, hi, rfl, hb⟩ := hrel
    have HB : Hid (Below w.heap.size w wr) := hb
    by_cases hlt : i < n
    · have hip : i < ps.length := by rw [HP.out]; exact hlt
      have hip' : i < ps'.length := by rw [HP'.out]; exact hlt
      have hK := HK.out.below hb
      have hK' := HK'.out.below hb
      obtain ⟨e0, e1, e2, e3, e4⟩ := hK.at hip
      obtain ⟨f0, f1, f2, f3, f4⟩ := hK'.at hip'
      obtain rfl := hK.addr (by omega)
      obtain rfl := hK'.addr (by omega)
      have CN : Hid (∀ dd os, Calls Try.prog 53 #[ndV ps[i], ndV ps'[i]] (Sort.grow (redrawn wr dd) os) fun e w' => e = .returned (.bool true) ∧ Below (Sort.grow (redrawn wr dd) os).heap.size (Sort.grow (redrawn wr dd) os) w') := fun dd os => node_same ps[i] ps'[i] _ ((hK.ok _ (List.getElem_mem hip)).below (below_regrown wr dd os)) ((hK'.ok _ (List.getElem_mem hip')).below (below_regrown wr dd os)) (HEQ.out i hip hip')
      clear hK hK' hb HEQ
      generalize ps[i] = x at *
      generalize ps'[i] = y at *
      obtain ⟨⟨p, d, q, bs, wb⟩, ⟨sa, sn, sc⟩⟩ := x
      obtain ⟨⟨p', d', q', bs', wb'⟩, ⟨sa', sn', sc'⟩⟩ := y
      unfold ndV at CN
      simp only at e0 e1 e2 e3 e4 f0 f1 f2 f3 f4 CN
      have r0 := fun dd os => cell_regrown e0 dd os
      have r1 := fun dd os => cell_regrown e1 dd os
      have r2 := fun dd os => cell_regrown e2 dd os
      have r3 := fun dd os => cell_regrown e3 dd os
      have r4 := fun dd os => cell_regrown e4 dd os
      have t0 := fun dd os => cell_regrown f0 dd os
      have t1 := fun dd os => cell_regrown f1 dd os
      have t2 := fun dd os => cell_regrown f2 dd os
      have t3 := fun dd os => cell_regrown f3 dd os
      have t4 := fun dd os => cell_regrown f4 dd os
      clear e0 e1 e2 e3 e4 f0 f1 f2 f3 f4
      go_wp2
      refine wp_region_quiet_below (by kernel_rfl) (by kernel_rfl) ?_
      repeat (first | go_big_quiet_step (exact Calls.regrown_of (CN.out _ _)) | quiet_step (exact Calls.regrown_of (CN.out _ _)))
      refine wpQuiet_nil ?_
      intro _ hw'
      obtain ⟨⟨dq, osq⟩, hw''⟩ := hw'
      subst hw''
      go_wp2
      go_roundw
      case rel => exact ⟨i + 1, by omega, by go_num, bel_tr HB.out (below_regrown wr dq osq)⟩
      case measure => simp [intOf]; omega
    · obtain rfl : i = n := by omega
      have hgd : decide ((i : Int) < (i : Int)) = false := decide_eq_false (by omega)
      clear hb hlt
      go_wp2
      go_ret
      exact ⟨rfl, HB.out⟩

def noS : RS := ⟨none, 0, 0⟩
theorem noS_ok (w : World) (x : Nd) (hx : x.bs = []) (hs : x.path.size ≤ maxLen) : NdOk w (x, noS) := ⟨hs, by rw [hx]; rfl, Nat.zero_le _, fun _ => rfl, fun hp => absurd hp (Nat.lt_irrefl 0)⟩

set_option maxRecDepth 100000 in
theorem dir_val (p : ByteArray) (w : World) : Calls Try.prog 29 #[.string p] w fun e w' => e = .returned (ndV (dirN p, noS)) ∧ Below w.heap.size w w' := by
  have hst := run_store_str
  have hst2 : ∀ (w : World) (a : Addr) (x : Option Addr) (n c : Nat) (m : Mode), (store a (.slice x n c) m).run Try.prog w = stored Try.prog w a (.slice x n c) m := fun w a x n c m => run_store_any w a _ m rfl
  go_enter Try.func29, Try.ntmps29
  go_wp2
  exact bodyPost_ret (v := ndV (dirN p, noS)) (by simp [results, ndV, dirN, noS, Try.results29, go_sem]) rfl ⟨rfl, bel_al _ _⟩

set_option maxRecDepth 100000 in
theorem file_val (p : ByteArray) (w : World) : Calls Try.prog 28 #[.string p] w fun e w' => e = .returned (ndV (fileN p, noS)) ∧ Below w.heap.size w w' := by
  have hst := run_store_str
  have hst2 : ∀ (w : World) (a : Addr) (x : Option Addr) (n c : Nat) (m : Mode), (store a (.slice x n c) m).run Try.prog w = stored Try.prog w a (.slice x n c) m := fun w a x n c m => run_store_any w a _ m rfl
  go_enter Try.func28, Try.ntmps28
  go_wp2
  exact bodyPost_ret (v := ndV (fileN p, noS)) (by simp [results, ndV, fileN, noS, Try.results28, go_sem]) rfl ⟨rfl, bel_al _ _⟩

end Go.Proofs.Ytdcmhbodjmajcaa
