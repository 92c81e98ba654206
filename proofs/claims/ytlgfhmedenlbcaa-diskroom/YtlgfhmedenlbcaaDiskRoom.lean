/- DiskRoom: for every number and every list of strings: the statement's function returns true; nothing that was there is changed. No condition. -/
import Derived.Test.YtlgfhmedenlbcaaDiskPick
import Derived.Test.YtlgfhmedenlbcaaOpenAll
namespace Go.Proofs.Ytlgfhmedenlbcaa.diskRoom
open Go.ChangeShapes Go.WideShapes Go.ChangeAt Go.RowKit
open Go.ChangeMaps (open_string shut_string)
set_option linter.unusedVariables false

theorem own : ownKnob Try.prog.godebug = none := by kernel_rfl

theorem cut_size (s : ByteArray) (k : Nat) (h : k ≤ s.size) : (s.extract 0 k).size = k := by
  rw [ByteArray.size_extract]; omega
theorem ba_len (a : ByteArray) : a.data.toList.length = a.size := Array.length_toList

theorem Strs.at {w w' : World} {a : Option Addr} {b off : Nat} {ss : List ByteArray} (h : Strs w a b off ss) (hb : Below w.heap.size w w') (j : Nat) (hj : j < ss.length) (s : ByteArray) (hs : ss[j] = s) : w'.cell? ⟨b, off + j, none⟩ = some (.string s) := by
  rw [(h.below hb).cell j hj, hs]

theorem flen_tot {S : FS} (hS : Rise S) (n : List UInt8) : flen (fget S n) ≤ tot S := by
  have := tot_fdel hS n; omega

theorem fapp_tot {S : FS} (hS : Rise S) (n X : List UInt8) : tot (fapp n X S) = tot S + X.length := by
  have h := tot_fput hS n (fdat S n ++ X, fsy S n)
  have h2 := flen_eq S n
  rw [fapp_eq]
  simp only [List.length_append] at h
  omega
theorem fapp_len {S : FS} (hS : Rise S) (n X : List UInt8) : (fapp n X S).length ≤ S.length + 1 := by
  have h := len_fput hS n (fdat S n ++ X, fsy S n)
  rw [fapp_eq]; omega

theorem lit_str (w : World) (z : UInt8) : (convert 51 9 (.slice (some ⟨w.heap.size, 0, none⟩) 1 1)).run Try.prog (w.alloc (.cells #[.int .u8 (z.toNat : Int)] 5)) = .ok (.string ⟨#[z]⟩) (w.alloc (.cells #[.int .u8 (z.toNat : Int)] 5)) :=
  run_convert_bytes_back (P := Try.prog) (w.alloc (.cells #[.int .u8 (z.toNat : Int)] 5)) 51 9 5 ⟨w.heap.size, 0, none⟩ 1 [z] Try.underlying51 Try.underlying5 Try.underlying9 (fun j hj => by
    have : j = 0 := by simpa using hj
    subst this
    exact World.cell?_alloc_new w _ _ 0)

theorem names_one {w0 w : World} {pd : Nat} {room : Int} {S : FS} (h : One w0 w pd ⟨room, 0, false, S⟩) (n : Nat) (hn : S.length = n) :
    Calls Try.prog 14 #[.pointer (some ⟨pd, 0, none⟩)] w fun e w' => ∃ a c b, e = .returned (.slice a n c) ∧ One w0 w' pd ⟨room, 0, false, S⟩ ∧ (0 < n → a = some ⟨b, 0, none⟩ ∧ b < w'.heap.size) ∧ ∀ j (hj : j < S.length), w'.cell? ⟨b, j, none⟩ = some (.string ⟨S[j].1.toArray⟩) := by
  obtain ⟨⟨O, h1, h2, h3⟩⟩ := h
  refine (list_val h1).mono fun e w' ⟨v, e1, e2, _, e3⟩ => ?_
  have e2' : w'.ownsRow w.heap.size 9 1 v S.length ((S.map (·.1)).map encStr) := by simpa [listN] using e2
  obtain ⟨a, c, b, hv, hb, hc⟩ := own_fs e2' hn
  exact ⟨a, c, b, by rw [e1, hv], ⟨⟨O, h1.below e3, h2, bel_tr h3 e3⟩⟩, fun hp => ⟨(hb hp).1, (hb hp).2.2⟩, hc⟩

theorem read_b {w0 w : World} {pd : Nat} {room : Int} {S : FS} (h : One w0 w pd ⟨room, 0, false, S⟩) (s : ByteArray) (hs : s.size ≤ maxLen) (t : ByteArray) (sy : Nat) (hf : fget S s.data.toList = some (t.data.toList, sy)) :
    Calls Try.prog 22 #[.pointer (some ⟨pd, 0, none⟩), .string s] w fun e w' => e = .returned (.tuple #[.string t, .int .i64 0]) ∧ Below w.heap.size w w' := by
  obtain ⟨⟨O, h1, h2, h3⟩⟩ := h
  exact read_val h1 s hs t 0 (by rw [rdT_eq _ rfl]; show (⟨(fdat S s.data.toList).toArray⟩ : ByteArray) = t; unfold fdat; rw [hf]) (by rw [rdE_eq _ rfl]; exact refM_some hf)

theorem less_eq : ∀ a b : List UInt8, Op.bytesLess a b = bytesBefore a b
  | [], [] => rfl
  | [], _ :: _ => rfl
  | _ :: _, [] => rfl
  | x :: r, y :: s => by
    have := less_eq r s
    simp only [Op.bytesLess, bytesBefore, this]
theorem less_no {a b : List UInt8} (h : bytesBefore a b = true) : Op.bytesLess b a = false := by
  rw [less_eq]
  cases e : bytesBefore b a
  · rfl
  · have := WideShapes.bytes_trans _ _ _ h e
    rw [WideAt.bytes_irrefl] at this; cases this

theorem belN (w : World) : ∀ (n : Nat) {B : Nat}, Below B w (w.drewN n) := fun n B => ⟨rfl, rfl, rfl, Nat.le_refl _, fun _ _ => rfl⟩

theorem tot_take {S : FS} (i : Nat) (h : i < S.length) : tot (S.take (i + 1)) = tot (S.take i) + S[i].2.1.length := by
  rw [List.take_succ_eq_append_getElem h, tot_append, tot_cons, tot_nil]; omega
theorem tot_take_le {S : FS} (i : Nat) : tot (S.take i) ≤ tot S := by
  have : tot S = tot (S.take i) + tot (S.drop i) := by rw [← tot_append, List.take_append_drop]
  omega

set_option maxRecDepth 100000 in
set_option maxHeartbeats 4000000 in
theorem walk_b (rr : Int) (a0 : Option Addr) (b0 off0 cap0 n0 R : Nat) (ss0 : List ByteArray) (w : World) (hrr : -9223372036854775808 ≤ rr ∧ rr ≤ 9223372036854775807) (hR : keepN rr % 200 = R) (hn0 : ss0.length = n0) (hS0 : Strs w a0 b0 off0 ss0) :
    Calls Try.prog 7 #[.int .i64 rr, .slice a0 n0 cap0] w fun e w' => e = .returned (.bool true) ∧ Below w.heap.size w w' := by
  have hx0 : n0 ≤ 9223372036854775807 := by have := hS0.len; unfold maxLen at this; omega
  have hR2 : R < 200 := by rw [← hR]; exact Nat.mod_lt _ (by omega)
  have CP : Hid _ := fun w => pick_val rr 200 R w hrr (by omega) hR
  have HN0 : Hid _ := hn0
  have HS0 : Hid _ := hS0
  clear hn0 hS0 hR
  go_enter Try.func7, Try.ntmps7
  go_wp2_with fail
  refine (examples_val _).mono ?_
  rintro e w1 ⟨rfl, bb1⟩
  go_wp2_with fail
  refine (CP.out _).mono ?_
  rintro e w1' ⟨rfl, hw1'⟩
  subst hw1'
  clear CP
  go_wp2_with fail
  refine (one_new bb1 (R : Int) (R : Int) (by omega) (by omega)).mono ?_
  rintro e w2 ⟨pd, rfl, h2⟩
  have H2 : Hid _ := h2
  clear bb1 h2
  go_wp2
  go_loopw [7] (fun vi wr => ∃ (k : Nat) (S : FS), k ≤ n0 ∧ k ≤ 20 ∧ vi = .int .i64 k ∧ S.length ≤ k ∧ tot S ≤ R ∧ Rise S ∧ One w wr pd ⟨(R : Int), 0, false, S⟩) (fun vi _ => 20 - (intOf vi).toNat)
  case atStart => exact ⟨0, [], by omega, by omega, rfl, by simp, by simp [tot], List.Pairwise.nil, H2.out⟩
  case round =>
    obtain ⟨k, S, hkn, hk20, rfl, hSl, hSt, hSr, hO⟩ := hrel
    by_cases hlt : k < n0 ∧ k < 20
    · obtain ⟨hlt0, hlt1⟩ := hlt
      have hk0 : k < ss0.length := by rw [HN0.out]; exact hlt0
      obtain rfl := HS0.out.addr (by omega)
      obtain ⟨s, hs⟩ : ∃ s, ss0[k] = s := ⟨_, rfl⟩
      have hc1 := Strs.at HS0.out hO.bel k hk0 s hs
      have hsm : s.size ≤ 9223372036854775807 := by have := HS0.out.small s (hs ▸ List.getElem_mem hk0); unfold maxLen at this; omega
      obtain ⟨M, hM, hMs, hM1⟩ : ∃ M : Nat, min (s.size : Int) 100 = (M : Int) ∧ M ≤ s.size ∧ M ≤ 100 := ⟨min s.size 100, by omega, by omega, by omega⟩
      obtain ⟨X, hX⟩ : ∃ X, s.extract 0 M = X := ⟨_, rfl⟩
      have hXz : X.size = M := by rw [← hX]; exact cut_size s M hMs
      obtain ⟨r, hr⟩ : ∃ r, k % 3 = r := ⟨_, rfl⟩
      have hr3 : r < 3 := by omega
      have hr1 : (k : Int).tmod 3 = (r : Int) := by rw [Int.tmod_eq_emod_of_nonneg (by omega), ← hr]; rfl
      have hr2 : (k : Int) % 3 = (r : Int) := by rw [← hr]; rfl
      obtain ⟨z, hz⟩ : ∃ z : UInt8, (z.toNat : Int) = 97 + (r : Int) := ⟨UInt8.ofNat (97 + r), by rw [UInt8.toNat_ofNat']; omega⟩
      have hcv : ∀ W : World, _ := fun W => lit_str W z
      rw [hz] at hcv
      obtain ⟨U, hU⟩ : ∃ U, tot S = U := ⟨_, rfl⟩
      have CU : Hid (∀ w', One w w' pd ⟨(R : Int), 0, false, S⟩ → _) := fun w' h' => ok_used h' U hU
      have HO : Hid _ := hO
      rw [hU] at hSt
      have hfl := flen_tot hSr [z]
      have HXm : Hid (X.size ≤ 140737488355328) := by show X.size ≤ _; omega
      have hnk : nameOk [z] = true := by unfold nameOk; simp
      clear hO hs hk0 hr
      by_cases hfit : U + M ≤ R
      · have HR : Hid (refA ⟨(R : Int), 0, false, S⟩ [z] X.data.toList = 0) := refA_ok hnk (by rw [ba_len]; omega) (.inr (by omega)) (by rw [ba_len]; omega)
        have CA : Hid (∀ w', One w w' pd ⟨(R : Int), 0, false, S⟩ → _) := fun w' h' => ok_append h' ⟨#[z]⟩ X (by show 1 ≤ maxLen; unfold maxLen; omega) HXm.out HR.out rfl
        have HT : Hid (tot (fapp [z] X.data.toList S) = U + M) := by show _ = _; rw [fapp_tot hSr, hU, ba_len, hXz]
        have HL : Hid ((fapp [z] X.data.toList S).length ≤ k + 1) := by have := fapp_len hSr [z] X.data.toList; show _ ≤ _; omega
        have HRi : Hid (Rise (fapp [z] X.data.toList S)) := by show Rise _; rw [fapp_eq]; exact rise_fput hSr _ _
        clear HR hfl hnk
        go_wp2
        go_region
        all_goals
          go_wp2_with fail
          refine (CU.out _ (HO.out.below ((Below.refl _ _).drew))).mono ?_
          rintro e w3 ⟨rfl, h3⟩
          go_wp2_with fail
          refine (CA.out _ (h3.below ((Below.refl _ _).alloc (Nat.le_refl _) _))).mono ?_
          rintro e w4 ⟨rfl, h4⟩
          clear h3
          go_wp2_with fail
          refine (ok_used h4 (U + M) HT.out).mono ?_
          rintro e w5 ⟨rfl, h5⟩
          have H5 : Hid _ := h5
          clear h4 h5
          go_wp2
          go_roundw
          case rel => exact ⟨k + 1, _, by omega, by omega, by go_num, HL.out, by rw [HT.out]; exact hfit, HRi.out, H5.out⟩
          case measure => simp [intOf]; omega
      · have HR : Hid (refA ⟨(R : Int), 0, false, S⟩ [z] X.data.toList = 8) := refA_full hnk (by rw [ba_len]; omega) (.inr (by omega)) (by rw [ba_len]; omega)
        have CA : Hid (∀ w', One w w' pd ⟨(R : Int), 0, false, S⟩ → _) := fun w' h' => no_append h' ⟨#[z]⟩ X (by show 1 ≤ maxLen; unfold maxLen; omega) HXm.out 8 HR.out (by omega)
        have HT : Hid (tot S ≤ R ∧ Rise S ∧ S.length ≤ k) := ⟨by rw [hU]; exact hSt, hSr, hSl⟩
        clear HR hfl hnk
        go_wp2
        go_region
        all_goals
          go_wp2_with fail
          refine (CU.out _ (HO.out.below ((Below.refl _ _).drew))).mono ?_
          rintro e w3 ⟨rfl, h3⟩
          go_wp2_with fail
          refine (CA.out _ (h3.below ((Below.refl _ _).alloc (Nat.le_refl _) _))).mono ?_
          rintro e w4 ⟨rfl, h4⟩
          clear h3
          go_wp2_with fail
          refine (CU.out _ h4).mono ?_
          rintro e w5 ⟨rfl, h5⟩
          have H5 : Hid _ := h5
          clear h4 h5
          go_wp2
          go_roundw
          case rel => exact ⟨k + 1, S, by omega, by omega, by go_num, by have := HT.out.2.2; omega, HT.out.1, HT.out.2.1, H5.out⟩
          case measure => simp [intOf]; omega
    · obtain ⟨n, hn⟩ : ∃ n, S.length = n := ⟨_, rfl⟩
      have CL : Hid _ := fun (_ : Unit) => names_one hO n hn
      have hn20 : n ≤ 20 := by omega
      have HN : Hid _ := hn
      have HRi : Hid _ := hSr
      have HT : Hid (tot S ≤ R) := hSt
      have hnames : ∀ p ∈ S, p.1.length ≤ maxLen := fun p hp => by
        obtain ⟨⟨O, ⟨b, V, B, h1⟩, _⟩⟩ := hO
        have := DiskAt.name h1 p hp
        unfold maxLen; omega
      have hex : (n0 ≤ k) ∨ (k < n0 ∧ 20 ≤ k) := by omega
      rename World => wo
      clear hO hn hSr hlt hSt
      rcases hex with c1 | ⟨c1, c2⟩
      all_goals
        go_wp2_with fail
        refine (CL.out ()).mono ?_
        rintro e w4 ⟨na, nc, nb, rfl, h4, hna, hcell⟩
        have H4 : Hid _ := h4
        have HA : Hid (0 < n → na = some ⟨nb, 0, none⟩ ∧ nb < w4.heap.size) := hna
        have HC : Hid _ := hcell
        clear h4 hna hcell CL
        go_wp2
        go_loopw [11, 13] (fun va vi wr => ∃ i : Nat, i ≤ n ∧ vi = .int .i64 i ∧ va = .int .i64 (tot (S.take i) : Int) ∧ Below w4.heap.size w4 wr) (fun _ vi _ => n - (intOf vi).toNat)
        case atStart => exact ⟨0, by omega, rfl, rfl, Below.refl _ _⟩
        case round =>
          obtain ⟨i, hi, rfl, rfl, hb⟩ := hrel
          have hti := tot_take_le (S := S) i
          have hT := HT.out
          by_cases hilt : i < n
          · have hiS : i < S.length := by rw [HN.out]; exact hilt
            obtain ⟨rfl, hnb⟩ := HA.out (by omega)
            have hcl : ∀ j (hj : j < S.length), wr.cell? ⟨nb, j, none⟩ = some (.string ⟨S[j].1.toArray⟩) := fun j hj => (hb.cell (p := ⟨nb, j, none⟩) hnb).trans (HC.out j hj)
            have hc1 := hcl i hiS
            obtain ⟨x, hx⟩ : ∃ x : ByteArray, (⟨S[i].1.toArray⟩ : ByteArray) = x := ⟨_, rfl⟩
            obtain ⟨t, ht⟩ : ∃ t : ByteArray, (⟨S[i].2.1.toArray⟩ : ByteArray) = t := ⟨_, rfl⟩
            have hxl : x.data.toList = S[i].1 := by rw [← hx]
            have htl : t.data.toList = S[i].2.1 := by rw [← ht]
            rw [hx] at hc1
            have hgf : fget S x.data.toList = some (t.data.toList, S[i].2.2) := by rw [hxl, htl]; exact mem_fget HRi.out (List.getElem_mem hiS)
            have hxm : x.size ≤ maxLen := by rw [← ba_len, hxl]; exact hnames S[i] (List.getElem_mem hiS)
            have htz : (tot (S.take (i + 1)) : Int) = (tot (S.take i) : Int) + (t.size : Int) := by rw [tot_take i hiS, ← htl, ba_len]; rfl
            have htz2 : tot (S.take i) + t.size ≤ 200 := by have := tot_take_le (S := S) (i + 1); rw [tot_take i hiS, ← htl, ba_len] at this; omega
            have HTZ : Hid _ := htz
            have C1 : Hid _ := fun (_ : Unit) => read_b (H4.out.below hb) x hxm t S[i].2.2 hgf
            have hnbr : nb < wr.heap.size := Nat.lt_of_lt_of_le hnb hb.size
            have HB : Hid _ := hb
            clear htz hgf hx ht hb hti
            rcases Nat.eq_zero_or_pos i with hi0 | hi0
            · have hg : decide ((0 : Int) < (i : Int)) = false := decide_eq_false (by omega)
              have hg2 : decide (0 < i) = false := decide_eq_false (by omega)
              clear hi0 hcl hxl htl
              generalize tot (S.take i) = P at *
              go_wp2_with fail
              refine (C1.out ()).mono ?_
              rintro e w5 ⟨rfl, b5⟩
              have hc1' := (b5.cell (p := ⟨nb, i, none⟩) hnbr).trans hc1
              go_wp2
              refine wp_region_quiet_lit (by kernel_rfl) (by kernel_rfl) ?_
              repeat (first | go_big_quiet_step (fail) | quiet_step (fail))
              refine wpQuiet_nil ?_
              rintro _ ⟨nq, rfl⟩
              have b6 : Below w4.heap.size w4 (w5.drewN nq) := (bel_tr HB.out b5).trans (belN w5 nq)
              go_wp2
              go_roundw
              case rel => exact ⟨i + 1, by omega, by go_num, by rw [HTZ.out], b6⟩
              case measure => simp [intOf]; omega
            · obtain ⟨i1, hi1⟩ : ∃ i1 : Nat, (i : Int) - 1 = (i1 : Int) := ⟨i - 1, by omega⟩
              have hi1S : i1 < S.length := by omega
              have hc2 := hcl i1 hi1S
              obtain ⟨y, hy⟩ : ∃ y : ByteArray, (⟨S[i1].1.toArray⟩ : ByteArray) = y := ⟨_, rfl⟩
              have hyl : y.data.toList = S[i1].1 := by rw [← hy]
              rw [hy] at hc2
              have hbef : bytesBefore y.data.toList x.data.toList = true := by
                rw [hyl, hxl]
                exact List.pairwise_iff_getElem.1 HRi.out i1 i hi1S hiS (by omega)
              have hl1 : Op.bytesLess x.toList y.toList = false := by rw [ByteArray.toList_eq, ByteArray.toList_eq]; exact less_no hbef
              have hl2 : (x.toList == y.toList) = false := by
                rw [ByteArray.toList_eq, ByteArray.toList_eq]
                rw [beq_eq_false_iff_ne]
                exact (ne_of_before hbef).symm
              clear hcl hxl htl hy hyl hbef
              have hi1n : i1 < n := by omega
              generalize tot (S.take i) = P at *
              go_wp2_with fail
              refine (C1.out ()).mono ?_
              rintro e w5 ⟨rfl, b5⟩
              have hc1' := (b5.cell (p := ⟨nb, i, none⟩) hnbr).trans hc1
              have hc2' := (b5.cell (p := ⟨nb, i1, none⟩) hnbr).trans hc2
              go_wp2
              refine wp_region_quiet_lit (by kernel_rfl) (by kernel_rfl) ?_
              repeat (first | go_big_quiet_step (fail) | quiet_step (fail))
              refine wpQuiet_nil ?_
              rintro _ ⟨nq, rfl⟩
              have b6 : Below w4.heap.size w4 (w5.drewN nq) := (bel_tr HB.out b5).trans (belN w5 nq)
              go_wp2
              go_roundw
              case rel => exact ⟨i + 1, by omega, by go_num, by rw [HTZ.out], b6⟩
              case measure => simp [intOf]; omega
          · have hin : i = n := by omega
            have hti2 : tot (S.take i) = tot S := by rw [List.take_of_length_le (by rw [HN.out]; omega)]
            have C1 : Hid _ := fun (_ : Unit) => ok_used (H4.out.below hb) (tot S) rfl
            rw [hti2]
            clear hti hti2 hb
            generalize tot S = P at *
            have hge : n ≤ i := by omega
            clear hin hilt
            go_wp2_with fail
            refine (C1.out ()).mono ?_
            rintro e w5 ⟨rfl, h5⟩
            go_wp2
            go_ret
            exact ⟨rfl, h5.bel⟩

theorem walk (a0 : Int) (a1 : Option Addr) (b1 off1 cap1 : Nat) (ss1 : List ByteArray) (w : World) (w0 : (Lit.int .i64 a0).wf = true) (w1 : Strs w a1 b1 off1 ss1) :
    Calls Try.prog 7 #[.int .i64 a0, .slice a1 ss1.length cap1] w fun e w' => e = .returned (.bool true) ∧ Below w.heap.size w w' :=
  walk_b a0 a1 b1 off1 cap1 _ _ ss1 w (bounds_i64 w0) rfl rfl w1

set_option maxRecDepth 100000 in
theorem lifted (os : Os) (started : os.Started) (H : Type) (enc : TypeId × Value → H) :
    ReturnsInHanded {} Try.checked os 7 .any (Rows.diskRoomSpec.pre6 enc Try.prog Try.f7 Rows.diskRoomRow.domain false) (Rows.diskRoomSpec.post enc Try.prog Try.f7 false true false false) := by
  refine returnsInHanded_of_change (C := Try.checked) own started (by kernel_rfl) Try.func7
    (ChangeSpec.witness6 (enc := enc) (C := Try.checked) false ⟨#[], #[.int .i64 0, .slice none 0 0], []⟩ 8 (by kernel_rfl) (by kernel_rfl) (by kernel_rfl) (by kernel_rfl)) ?_
  intro W base args ds gs before hval0 hW hcnd _
  have hval : ∀ (j : Nat) t v, Try.f7.params[j]? = some t → args[j]? = some v → Value.okWide Try.prog W .any base t v := hval0
  have hW' := hW
  obtain ⟨p, q, hA0, hV, rfl, hfz, hnd⟩ := hW
  have hA : DataW.TrodAll enc Try.prog W 0 (fun _ => true) true Try.f7.params.toList args.toList ds p := hA0
  rw [Try.params7] at hA hval
  obtain ⟨v0, vs0, d0, ds0, p0, q0, hargs, rfl, rfl, h0, r0⟩ := trodAll_cons hA
  obtain ⟨v1, vs1, d1, ds1, p1, q1, rfl, rfl, rfl, h1, r1⟩ := trodAll_cons r0
  obtain ⟨rfl, rfl, rfl⟩ := trodAll_nil r1
  obtain rfl : args = #[v0, v1] := by cases args; simp_all
  obtain ⟨rfl, rfl⟩ := trodVars_none hV
  obtain ⟨a0, rfl, rfl, rfl, w0⟩ := open_int Try.underlying3 (hval 0 3 v0 rfl rfl) h0
  obtain ⟨a1, len1, cap1, rfl⟩ := okWide_slice Try.underlying33 (hval 1 33 v1 rfl rfl)
  have k1 := h1
  have lt1 : ∀ x ∈ p1, x.block < W.heap.size := by obtain ⟨m, hm⟩ := k1; exact DataW.trod_lt m _ _ _ hm
  obtain ⟨b1, off1, ss1, rfl, w1⟩ := open_strs Try.underlying33 Try.underlying9 (by kernel_rfl) h1
  clear hA0 hval0
  refine (walk a0 a1 b1 off1 cap1 ss1 W w0 w1).mono fun e W' ⟨he, bel⟩ => ?_
  subst he
  exact ⟨_, rfl, _, _, _, [], _, [], hW', trodAll_mk1 (shut_bool Try.underlying4 _), (trodAll_cons_mk (shut_int Try.underlying3 w0) (trodAll_cons_mk (Below.trod laidOut (by kernel_rfl) (of_decide_eq_true (by kernel_rfl)) k1 bel lt1) trodAll_mk0)), rfl, bel.frame _, fun h => by cases h⟩

theorem over : Rows.diskRoomRow.holds Try.pinned (OpenSpec.ofChange Rows.diskRoomSpec) :=
  OpenClaim.holds_of_wide 7 Try.f7 rfl rfl rfl rfl rfl rfl rfl ⟨rfl, rfl, rfl, rfl, rfl⟩ rfl rfl rfl rfl rfl (by kernel_rfl) Try.func7 (by kernel_rfl)
    (of_decide_eq_true (by kernel_rfl)) (by unfold Func.isWrapper; first | (rw [if_pos (by decide +kernel)]; kernel_rfl) | (rw [if_neg (by decide +kernel)]; exact ⟨rfl, rfl⟩))
    (fun os started H enc _ => lifted os started H enc)
end Go.Proofs.Ytlgfhmedenlbcaa.diskRoom

namespace Go.Proofs.Ytlgfhmedenlbcaa
/-- The statement. -/
theorem diskRoom_holds : Rows.DiskRoomSaid := diskRoom.over
#print axioms diskRoom_holds
end Go.Proofs.Ytlgfhmedenlbcaa
