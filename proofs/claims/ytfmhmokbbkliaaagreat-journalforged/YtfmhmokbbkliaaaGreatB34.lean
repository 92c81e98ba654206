/- Part 34 of the proof: JrnB1, JrnB2, JrnB3, JrnB4. -/
import Derived.Test.YtfmhmokbbkliaaaGreatB28
import Derived.Test.YtfmhmokbbkliaaaGreatB31
import Derived.Test.YtfmhmokbbkliaaaGreatB32
import Derived.Test.YtfmhmokbbkliaaaGreatB33
import Derived.BigQuiet
import Derived.Deep.Cut
import Derived.Deep.RegionLaw
import Derived.Lib.QuietBelow

/- The contract of tabulariumref15.read. -/
namespace Go.Proofs.YtfmhmokbbkliaaaGreat.Jrn
open Go.RowKit Go.Proofs.YtfmhmokbbkliaaaGreat Go.Proofs.YtfmhmokbbkliaaaGreat.Wir Go.Proofs.YtfmhmokbbkliaaaGreat.Lgg
open Go.Proofs.YtfmhmokbbkliaaaGreat.Smm (bytes_ne)
set_option linter.unusedVariables false

set_option maxRecDepth 100000 in
set_option maxHeartbeats 4000000 in
theorem refRead_any (s : ByteArray) (hs : s.size ≤ maxLen) (w : World) : Calls Tryz.prog 71 #[.string s] w fun e w' => RdO w.heap.size (readQ s) e w' ∧ Below w.heap.size w w' := by
  have hst := fun (w : World) (a : Addr) (x : ByteArray) (m : Mode) => run_store (P := Tryz.prog) w a (.string x) m rfl
  have hst2 : ∀ (w : World) (a : Addr) (x : Option Addr) (n c : Nat) (m : Mode), (store a (.slice x n c) m).run Tryz.prog w = stored Tryz.prog w a (.slice x n c) m := fun w a x n c m => run_store (P := Tryz.prog) w a _ m rfl
  have CS : Hid (∀ W, Calls Tryz.prog 52 #[.string s] W fun e w' => SplitEnds W.heap.size (.bool true) (.bool false) (splitL s) e w' ∧ Below W.heap.size W w') := fun W => refSplit_any s W hs
  obtain ⟨o, hP⟩ : ∃ x, readQ s = x := ⟨_, rfl⟩
  rw [hP]
  obtain ⟨RB, hRB⟩ : ∃ RB, w.heap.size = RB := ⟨_, rfl⟩
  obtain ⟨f0', e0'⟩ := res_box4 w 128 RB hRB
  have F0 : Hid _ := f0'
  have EN : Hid _ := e0'
  clear f0' e0'
  have hz1 : (w.alloc (.cells #[.string ⟨#[]⟩, .int .i64 0, .int .i64 0, .slice none 0 0] 128)).heap.size = w.heap.size + 1 := by simp
  clear hs
  go_enter Tryz.func71, Tryz.ntmps71
  go_upto_region 1 with fail
  try simp only [hRB]
  generalize w.alloc (.cells #[.string ⟨#[]⟩, .int .i64 0, .int .i64 0, .slice none 0 0] 128) = W1 at *
  have HZ1 : Hid (W1.heap.size = w.heap.size + 1 ∧ w.heap.size = RB) := ⟨hz1, hRB⟩
  clear hz1 hRB
  cases hsp : splitL s with
  | none =>
    rw [hsp] at CS
    have hr : o = none := by rw [← hP]; unfold readQ; rw [hsp]
    subst hr
    replace CS : Hid (∀ W, Calls Tryz.prog 52 #[.string s] W fun e w' => e = .returned (.tuple #[.slice none 0 0, .bool false]) ∧ Below W.heap.size W w') := CS
    clear hP hsp
    go_wp2_with fail
    refine (CS.out _).mono ?_
    rintro x w2 ⟨rfl, b2⟩
    have B2 : Hid (Below W1.heap.size W1 w2) := b2
    clear b2
    have HR9 := F0.out _ B2.out
    have rc0 := HR9.c0
    have rc1 := HR9.c1
    have rc2 := HR9.c2
    have rc3 := HR9.c3
    have rf0 := HR9.fr 0
    have rf1 := HR9.fr 1
    have rf2 := HR9.fr 2
    have rf3 := HR9.fr 3
    clear HR9
    go_wp2
    obtain ⟨e1, e2, e3⟩ := EN.out _ ⟨#[]⟩ (0) (0) (none) 0 0 ([]) (none) (rfl) B2.out ((.nil rfl rfl rfl))
    have e4 := e1.c0
    have e5 := e1.c1
    have e6 := e1.c2
    have e7 := e1.c3
    refine bodyPost_ret (v := .tuple #[.agg #[.string ⟨#[]⟩, .int .i64 (0), .int .i64 (0), .slice (none) 0 0], .bool false]) ?_ rfl ⟨⟨⟨#[]⟩, 0, 0, none, 0, 0, none, [], rfl, rfl, e2, fun r hr => by cases hr⟩, e3⟩
    simp only [results, Tryz.results71]
    simp [go_sem, e4, e5, e6, e7]
  | some ts =>
    rw [hsp] at CS
    replace CS : Hid (∀ W, Calls Tryz.prog 52 #[.string s] W fun e w' => (∃ v, e = .returned (.tuple #[v, .bool true]) ∧ w'.ownsRow W.heap.size 9 1 v ts.length (ts.map Value.string) ∧ ts.length ≤ 1000 ∧ ∀ x ∈ ts, x.size ≤ maxLen) ∧ Below W.heap.size W w') := CS
    have hO : textsQ ts = o := by rw [← hP]; unfold readQ; rw [hsp]
    go_wp2_with fail
    refine (CS.out _).mono ?_
    rintro x w2 ⟨⟨v, rfl, ho, hl, hsm⟩, b2⟩
    obtain ⟨a, c, b, rfl, hn, hc, hS, -⟩ := own_strs ho hsm hl
    have B2 : Hid (Below W1.heap.size W1 w2) := b2
    clear ho b2 CS hn hP hsp
    match ts, hO, hl, hsm, hS, hc with
    | [], hO, hl, hsm, hS, hc =>
      obtain rfl : o = none := by rw [← hO]; rfl
      have hgd : decide ((0 : Int) < 2) = true := rfl
      simp only [List.length_nil]
      clear hO hS hl hsm hc
      have HR9 := F0.out _ B2.out
      have rc0 := HR9.c0
      have rc1 := HR9.c1
      have rc2 := HR9.c2
      have rc3 := HR9.c3
      have rf0 := HR9.fr 0
      have rf1 := HR9.fr 1
      have rf2 := HR9.fr 2
      have rf3 := HR9.fr 3
      clear HR9
      go_wp2
      obtain ⟨e1, e2, e3⟩ := EN.out _ ⟨#[]⟩ (0) (0) (none) 0 0 ([]) (none) (rfl) B2.out ((.nil rfl rfl rfl))
      have e4 := e1.c0
      have e5 := e1.c1
      have e6 := e1.c2
      have e7 := e1.c3
      refine bodyPost_ret (v := .tuple #[.agg #[.string ⟨#[]⟩, .int .i64 (0), .int .i64 (0), .slice (none) 0 0], .bool false]) ?_ rfl ⟨⟨⟨#[]⟩, 0, 0, none, 0, 0, none, [], rfl, rfl, e2, fun r hr => by cases hr⟩, e3⟩
      simp only [results, Tryz.results71]
      simp [go_sem, e4, e5, e6, e7]
    | [x1], hO, hl, hsm, hS, hc =>
      obtain rfl : o = none := by rw [← hO]; rfl
      have hgd : decide ((1 : Int) < 2) = true := rfl
      simp only [List.length_singleton]
      clear hO hS hl hsm hc
      have HR9 := F0.out _ B2.out
      have rc0 := HR9.c0
      have rc1 := HR9.c1
      have rc2 := HR9.c2
      have rc3 := HR9.c3
      have rf0 := HR9.fr 0
      have rf1 := HR9.fr 1
      have rf2 := HR9.fr 2
      have rf3 := HR9.fr 3
      clear HR9
      go_wp2
      obtain ⟨e1, e2, e3⟩ := EN.out _ ⟨#[]⟩ (0) (0) (none) 0 0 ([]) (none) (rfl) B2.out ((.nil rfl rfl rfl))
      have e4 := e1.c0
      have e5 := e1.c1
      have e6 := e1.c2
      have e7 := e1.c3
      refine bodyPost_ret (v := .tuple #[.agg #[.string ⟨#[]⟩, .int .i64 (0), .int .i64 (0), .slice (none) 0 0], .bool false]) ?_ rfl ⟨⟨⟨#[]⟩, 0, 0, none, 0, 0, none, [], rfl, rfl, e2, fun r hr => by cases hr⟩, e3⟩
      simp only [results, Tryz.results71]
      simp [go_sem, e4, e5, e6, e7]
    | k :: t :: rest, hO, hl, hsm, hS, hc =>
      obtain rfl := hS.addr (by simp)
      have c0 : w2.cell? ⟨b, 0, none⟩ = some (.string k) := hS.cell 0 (by simp)
      have c1 : w2.cell? ⟨b, 1, none⟩ = some (.string t) := hS.cell 1 (by simp)
      have hts := hsm t (by simp)
      obtain ⟨ep, v, hnum, hcall⟩ := refNumber_val t hts
      have CN : Hid (∀ w, Calls Tryz.prog 53 #[.string t] w fun e w' => e = .returned (.tuple #[.int .i64 ep, .bool v]) ∧ Below w.heap.size w w') := hcall
      have HSS : Hid (Strs w2 (some ⟨b, 0, none⟩) b 0 (k :: t :: rest)) := hS
      obtain ⟨N, hN⟩ : ∃ N, (k :: t :: rest).length = N := ⟨_, rfl⟩
      rw [hN] at hl hc ⊢
      have hrl : rest.length + 2 = N := by simpa using hN
      have HN : Hid (rest.length + 2 = N) := hrl
      have HSM : Hid (∀ x ∈ rest, x.size ≤ maxLen) := fun x hx => hsm x (by simp [hx])
      have hN2 : 2 ≤ N := by omega
      clear hS hsm hcall hN hts
      go_upto_region 5 with (go_at_call 53; refine (CN.out _).mono ?_; rintro x w3 ⟨rfl, b3⟩; have B3 : Hid (Below W1.heap.size W1 w3) := bel_tr B2.out b3; have HS3 : Hid (Strs w3 (some ⟨b, 0, none⟩) b 0 (k :: t :: rest)) := HSS.out.below b3; clear b3 c0 c1)
      cases v with
      | false =>
        rw [if_neg (by simp)] at hnum
        obtain rfl : o = none := by rw [← hO]; simp only [textsQ, hnum]
        clear hO hnum hrl
        have HR9 := F0.out _ B3.out
        have rc0 := HR9.c0
        have rc1 := HR9.c1
        have rc2 := HR9.c2
        have rc3 := HR9.c3
        have rf0 := HR9.fr 0
        have rf1 := HR9.fr 1
        have rf2 := HR9.fr 2
        have rf3 := HR9.fr 3
        clear HR9
        go_wp2
        obtain ⟨e1, e2, e3⟩ := EN.out _ ⟨#[]⟩ (0) (0) (none) 0 0 ([]) (none) (rfl) B3.out ((.nil rfl rfl rfl))
        have e4 := e1.c0
        have e5 := e1.c1
        have e6 := e1.c2
        have e7 := e1.c3
        refine bodyPost_ret (v := .tuple #[.agg #[.string ⟨#[]⟩, .int .i64 (0), .int .i64 (0), .slice (none) 0 0], .bool false]) ?_ rfl ⟨⟨⟨#[]⟩, 0, 0, none, 0, 0, none, [], rfl, rfl, e2, fun r hr => by cases hr⟩, e3⟩
        simp only [results, Tryz.results71]
        simp [go_sem, e4, e5, e6, e7]
      | true =>
        rw [if_pos rfl] at hnum
        have hO2 : (if epR ep = true then kindQ k ep rest else none) = o := by rw [← hO]; simp only [textsQ, hnum]
        clear hO hnum
        by_cases hep : epR ep = true
        case neg =>
          rw [if_neg hep] at hO2
          subst hO2
          have hep2 : ep < 1 ∨ (¬ ep < 1 ∧ 9007199254740991 < ep) := by
            by_cases h1 : ep < 1
            · exact .inl h1
            · refine .inr ⟨h1, ?_⟩
              rcases Int.lt_or_le 9007199254740991 ep with h2 | h2
              · exact h2
              · exact absurd ((epR_iff ep).2 ⟨by omega, h2⟩) hep
          clear hep hrl
          have HR9 := F0.out _ B3.out
          have rc0 := HR9.c0
          have rc1 := HR9.c1
          have rc2 := HR9.c2
          have rc3 := HR9.c3
          have rf0 := HR9.fr 0
          have rf1 := HR9.fr 1
          have rf2 := HR9.fr 2
          have rf3 := HR9.fr 3
          clear HR9
          rcases hep2 with h1 | ⟨h1, h2⟩
          all_goals
            go_wp2
            obtain ⟨e1, e2, e3⟩ := EN.out _ ⟨#[]⟩ (0) (0) (none) 0 0 ([]) (none) (rfl) B3.out ((.nil rfl rfl rfl))
            have e4 := e1.c0
            have e5 := e1.c1
            have e6 := e1.c2
            have e7 := e1.c3
            refine bodyPost_ret (v := .tuple #[.agg #[.string ⟨#[]⟩, .int .i64 (0), .int .i64 (0), .slice (none) 0 0], .bool false]) ?_ rfl ⟨⟨⟨#[]⟩, 0, 0, none, 0, 0, none, [], rfl, rfl, e2, fun r hr => by cases hr⟩, e3⟩
            simp only [results, Tryz.results71]
            simp [go_sem, e4, e5, e6, e7]
        case pos =>
        rw [if_pos hep] at hO2
        obtain ⟨p1, p2⟩ := (epR_iff ep).1 hep
        unfold maxN at p2
        have HEP : Hid (epR ep = true) := hep
        have HO : Hid (kindQ k ep rest = o) := hO2
        have c0 : w3.cell? ⟨b, 0, none⟩ = some (.string k) := HS3.out.cell 0 (by simp)
        clear hep hO2 hrl
        go_upto_region 8 with fail
        have hq0 := Qb.new w3 k ep 0 (.slice none 0 0) 128
        have HQ : Hid (Qb (w3.alloc (.cells #[.string k, .int .i64 ep, .int .i64 0, .slice none 0 0] 128)) w3.heap.size k ep 0 (.slice none 0 0) ∧ Below w3.heap.size w3 (w3.alloc (.cells #[.string k, .int .i64 ep, .int .i64 0, .slice none 0 0] 128))) := ⟨hq0, bel_al _ _⟩
        have hsz4 : (w3.alloc (.cells #[.string k, .int .i64 ep, .int .i64 0, .slice none 0 0] 128)).heap.size = w3.heap.size + 1 := by simp
        clear hq0 c0
        have HZ3 : Hid (RB < w3.heap.size) := (F0.out _ B3.out).lt
        generalize w3.alloc (.cells #[.string k, .int .i64 ep, .int .i64 0, .slice none 0 0] 128) = w4 at *
        obtain ⟨QB, hQB⟩ : ∃ q, w3.heap.size = q := ⟨_, rfl⟩
        rw [hQB]
        simp only [hQB] at HQ HZ3 hsz4
        have HQB : Hid (w3.heap.size = QB) := hQB
        clear hQB
        have B4 : Hid (Below W1.heap.size W1 w4) := by have h1 := HQ.out.2; have h2 := HQB.out; exact bel_tr B3.out (by rw [h2]; exact h1)
        have HS4 : Hid (Strs w4 (some ⟨b, 0, none⟩) b 0 (k :: t :: rest)) := HS3.out.below (by have h1 := HQ.out.2; rw [HQB.out]; exact h1)
        have HSZ : Hid (w4.heap.size = QB + 1) := hsz4
        have HW1Q : Hid (W1.heap.size ≤ QB) := by show _ ≤ QB; have h1 := B3.out.size; have h2 := HQB.out; omega
        have c0 : w4.cell? ⟨b, 0, none⟩ = some (.string k) := HS4.out.cell 0 (by simp)
        have HBQ : Hid (b ≠ QB) := fun e => by have h1 : b < w3.heap.size := World.block_lt_of_cell? _ _ (HS3.out.cell 0 (by simp)); have h2 := HQB.out; omega
        by_cases hk1 : k = pT
        · subst hk1
          have hO3 := HO.out
          unfold kindQ at hO3
          rw [if_pos rfl] at hO3
          have qc0 := (HQ.out.1).c0
          have qc1 := (HQ.out.1).c1
          have qc2 := (HQ.out.1).c2
          have qc3 := (HQ.out.1).c3
          have HR9 := F0.out _ B4.out
          have rc0 := HR9.c0
          have rc1 := HR9.c1
          have rc2 := HR9.c2
          have rc3 := HR9.c3
          have rf0 := HR9.fr 0
          have rf1 := HR9.fr 1
          have rf2 := HR9.fr 2
          have rf3 := HR9.fr 3
          clear HR9
          change w4.cell? ⟨b, 0, none⟩ = some (.string ⟨#[112]⟩) at c0
          change w4.cell? ⟨QB, 0, none⟩ = some (.string ⟨#[112]⟩) at qc0
          by_cases hr0 : rest.length = 0
          · rw [if_pos hr0] at hO3
            subst hO3
            obtain rfl : N = 2 := by have := HN.out; omega
            go_wp2
            obtain ⟨e1, e2, e3⟩ := EN.out _ ⟨#[112]⟩ (ep) (0) (none) 0 0 ([]) (none) (rfl) B4.out ((.nil rfl rfl rfl))
            have e4 := e1.c0
            have e5 := e1.c1
            have e6 := e1.c2
            have e7 := e1.c3
            refine bodyPost_ret (v := .tuple #[.agg #[.string ⟨#[112]⟩, .int .i64 (ep), .int .i64 (0), .slice (none) 0 0], .bool true]) ?_ rfl ⟨⟨⟨#[112]⟩, ep, 0, none, 0, 0, none, [], rfl, rfl, e2, fun r hr => by cases hr; exact ⟨rfl, rfl, rfl⟩⟩, e3⟩
            simp only [results, Tryz.results71]
            simp [go_sem, e4, e5, e6, e7]
          · rw [if_neg hr0] at hO3
            subst hO3
            have hN3 : ((N : Int) == 2) = false := beq_eq_false_iff_ne.2 (by have := HN.out; omega)
            have hN4 : ¬ (N : Int) = 2 := by have := HN.out; omega
            go_wp2
            obtain ⟨e1, e2, e3⟩ := EN.out _ ⟨#[112]⟩ (ep) (0) (none) 0 0 ([]) (none) (rfl) B4.out ((.nil rfl rfl rfl))
            have e4 := e1.c0
            have e5 := e1.c1
            have e6 := e1.c2
            have e7 := e1.c3
            refine bodyPost_ret (v := .tuple #[.agg #[.string ⟨#[112]⟩, .int .i64 (ep), .int .i64 (0), .slice (none) 0 0], .bool false]) ?_ rfl ⟨⟨⟨#[112]⟩, ep, 0, none, 0, 0, none, [], rfl, rfl, e2, fun r hr => by cases hr⟩, e3⟩
            simp only [results, Tryz.results71]
            simp [go_sem, e4, e5, e6, e7]
        · have hb1 : (k.toList == [112]) = false := kind_ne hk1
          by_cases hk2 : k = aT
          · subst hk2
            change w4.cell? ⟨b, 0, none⟩ = some (.string ⟨#[97]⟩) at c0
            have hO3 := HO.out
            unfold kindQ at hO3
            rw [if_neg hk1, if_pos rfl] at hO3
            have HO3 : Hid ((if smallB rest = true then some (Rq.acc ep (numd rest)) else none) = o) := hO3
            clear hO3 HO hk1
            go_wp2
            obtain ⟨ti, hi1, hi2, hi3, hi4⟩ := info_e
            go_loopw [9] (fun v9 wr => ∃ (j i : Nat) (a : Option Addr) (c : Nat) (g : Option Nat), j = i + 2 ∧ j ≤ N ∧ v9 = .int .i64 j ∧ Hid (Qb wr QB ⟨#[97]⟩ ep 0 (.slice a i c) ∧ Cel (fun z => QB < z) wr 2 (.slice a i c) i (rowC enC (numd (rest.take i))) g ∧ Stay (fun z => z = QB) w4 wr)) (fun v9 _ => N - (intOf v9).toNat)
            case atStart => exact ⟨2, 0, none, 0, none, rfl, hN2, rfl, ⟨HQ.out.1, .nil rfl rfl rfl, Stay.refl _ _⟩⟩
            case round =>
              obtain ⟨j, i, a, c, g, hji, hjN, rfl, hI⟩ := hrel
              have HI : Hid (Qb wr QB ⟨#[97]⟩ ep 0 (.slice a i c) ∧ Cel (fun z => QB < z) wr 2 (.slice a i c) i (rowC enC (numd (rest.take i))) g ∧ Stay (fun z => z = QB) w4 wr) := hI
              clear hI c0
              have hij : i ≤ 998 := by omega
              have HJI : Hid (j = i + 2) := hji
              by_cases hlt : j < N
              · have hk : i < rest.length := by have := HN.out; omega
                have hwrS : Strs wr (some ⟨b, 0, none⟩) b 0 (aT :: t :: rest) := ⟨HS4.out.addr, fun q hq => by
                  have h1 := HS4.out.cell q hq
                  have h2 : b < w4.heap.size := World.block_lt_of_cell? _ _ h1
                  exact (World.cell?_of_block (a := ⟨b, 0 + q, none⟩) (HI.out.2.2.block b h2 HBQ.out)).trans h1, HS4.out.small, HS4.out.len⟩
                have cj : wr.cell? ⟨b, j, none⟩ = some (.string rest[i]) := by
                  have h1 := hwrS.cell j (by simp; omega)
                  rw [Nat.zero_add] at h1
                  rw [h1]
                  congr 2
                  subst hji
                  simp
                have hdm := HSM.out rest[i] (List.getElem_mem hk)
                have HTK : Hid (numd (rest.take (i + 1)) = numd (rest.take i) ++ [⟨(i : Int) + 1, rest[i]⟩]) := numd_take rest i hk
                have hwrap : IntKind.i64.wrap ((j : Int) - 1) = (i : Int) + 1 := by subst hji; simp [IntKind.wrap, IntKind.bits, IntKind.signed] <;> omega
                clear hwrS
                generalize rest[i] = d at *
                have c3 := HI.out.1.c3
                have c3a := cell_al c3
                have cja := cell_al cj
                have CW : Hid (∀ W, Below wr.heap.size wr W → Cel (fun z => QB < z) W 2 (.slice a i c) i (rowC enC (numd (rest.take i))) g) := fun W hb => HI.out.2.1.below hb
                have BB : Hid (∀ B1, Below wr.heap.size wr ((wr.alloc B1).drew)) := fun B1 => ((Below.refl _ wr).alloc (Nat.le_refl _) B1).drew
                have SW : Hid (Src Tryz.prog 2 22 (.slice (some ⟨wr.heap.size, 0, none⟩) 1 1) 1 [.int .i64 ((i : Int) + 1), .string d] ((wr.alloc (.cells #[.int .i64 ((i : Int) + 1), .string d] 24)).drew)) := by
                  refine Src.ofSlice _ Tryz.underlying22 ⟨wr.heap.size, 0, none⟩ 1 1 _ (by rfl) (fun q u hu => ?_) (fun u hu => wideN.one (⟨(i : Int) + 1, d⟩ : En) u hu)
                  rw [Addr.add_lit, Nat.zero_add]
                  show (wr.alloc (.cells #[.int .i64 ((i : Int) + 1), .string d] 24)).cell? ⟨wr.heap.size, q, none⟩ = some u
                  rw [World.cell?_alloc_new wr _ _ q]
                  simpa using hu
                have hgd : decide ((j : Int) < (N : Int)) = true := decide_eq_true (by omega)
                clear hk hji
                go_wp2
                go_region_law (refine step_append_cel rfl (.tmp 67) (.tmp 75) 22 22 rfl 24 ti _ 2 24 Tryz.underlying22 hi1 hi2 hi3 hi4 rfl (O := fun z => QB < z) _ i _ g (by simp [Act.eval]) (CW.out _ (BB.out _)) _ 1 [.int .i64 ((i : Int) + 1), .string d] (by simp [Act.eval]) SW.out (by unfold maxLen; omega) (by omega) ?_; intro a5 c5 w5 g5 hC5 hS5 hg5; have H5 : Hid (Qb w5 QB ⟨#[97]⟩ ep 0 (.slice a i c) ∧ Cel (fun z => QB < z) w5 2 (.slice a5 (i + 1) c5) (i + 1) (rowC enC (numd (rest.take i) ++ [⟨(i : Int) + 1, d⟩])) g5 ∧ Stay (fun z => z = QB) w4 w5) := qb_app HSZ.out HI.out.1 HI.out.2.1 HI.out.2.2 (BB.out _) hC5 hS5; clear hC5 hS5 hg5; have y3 := H5.out.1.c3; have f3 := H5.out.1.fr 3)
                all_goals
                  go_wp2
                  go_roundw
                  case rel =>
                    refine ⟨j + 1, i + 1, a5, c5, g5, by have := HJI.out; omega, by omega, by go_num, ⟨H5.out.1.putS _, ?_, H5.out.2.2.then_same (stay_set _ QB 3 _)⟩⟩
                    rw [HTK.out]
                    refine Cel.setOut H5.out.2.1 _ _ (fun e => ?_)
                    have h8 := H5.out.2.1
                    rw [e] at h8
                    have h9 : QB < QB := h8.lt.2
                    omega
                  case measure => simp [intOf]; omega
              · obtain rfl : j = N := by omega
                have hgd : decide ((j : Int) < (j : Int)) = false := decide_eq_false (by omega)
                have hi : i = rest.length := by have := HN.out; omega
                have htk : rest.take i = rest := List.take_of_length_le (by omega)
                have HCC : Hid (Cel (fun z => QB < z) wr 2 (.slice a i c) i (rowC enC (numd rest)) g) := by have h8 := HI.out.2.1; rw [htk] at h8; exact h8
                obtain ⟨v, hv⟩ : ∃ v, smallB rest = v := ⟨_, rfl⟩
                have CR : Hid (∀ W, Below wr.heap.size wr W → Calls Tryz.prog 46 #[.agg #[.int .i64 ep, .slice a i c]] W fun e w' => e = .returned (.bool v) ∧ Below W.heap.size W w') := fun W hb => refRight_val (lie_cel (HCC.out.below hb) (by rw [numd_len, hi])) (fun x hx => by
                  obtain ⟨q, hq, rfl⟩ := List.getElem_of_mem hx
                  rw [numd_at]
                  exact HSM.out _ (List.getElem_mem _)) ep i c (by rw [numd_len, hi]) v ⟨fun e => numd_right (epR_ok HEP.out) (by rw [hv]; exact e), fun e => by rw [← hv]; exact (numd_not e).2⟩
                have hO4 := HO3.out
                rw [hv] at hO4
                have HLN : Hid ((numd rest).length = i) := by show _ = _; rw [numd_len, hi]
                have BR : Hid (Below W1.heap.size W1 wr) := B4.out.trans (HI.out.2.2.below B4.out.size (fun z hz => by have h1 : z = QB := hz; have := HW1Q.out; omega))
                have qc0 := (HI.out.1).c0
                have qc1 := (HI.out.1).c1
                have qc2 := (HI.out.1).c2
                have qc3 := (HI.out.1).c3
                clear hlt htk hi HO3
                go_wp2_with (go_at_call 46; refine (CR.out _ (by first | exact Below.refl _ _ | exact bel_al _ _)).mono ?_; rintro x w6 ⟨rfl, b6⟩; have b7 : Below wr.heap.size wr w6 := (by first | exact b6 | exact bel_tr (bel_al _ _) b6); have B6 : Hid (Below W1.heap.size W1 w6) := bel_tr BR.out b7; have HC6 : Hid (Cel (fun z => QB < z) w6 2 (.slice a i c) i (rowC enC (numd rest)) g) := HCC.out.below b7; have HQ6 : Hid (Qb w6 QB ⟨#[97]⟩ ep 0 (.slice a i c)) := HI.out.1.below b7; clear b6 b7 qc0 qc1 qc2 qc3; have qc0 := (HQ6.out).c0; have qc1 := (HQ6.out).c1; have qc2 := (HQ6.out).c2; have qc3 := (HQ6.out).c3; have HR9 := F0.out _ B6.out; have rc0 := HR9.c0; have rc1 := HR9.c1; have rc2 := HR9.c2; have rc3 := HR9.c3; have rf0 := HR9.fr 0; have rf1 := HR9.fr 1; have rf2 := HR9.fr 2; have rf3 := HR9.fr 3; clear HR9)
                have HC7 : Hid (Cel (fun q => RB < q) w6 2 (.slice a i c) i (rowC enC (numd rest)) g) := HC6.out.stay (Nat.le_refl _) (fun _ _ => rfl) (fun z hz => by have h9 : QB < z := hz; have := HZ3.out; omega)
                cases v with
                | true =>
                  rw [if_pos rfl] at hO4
                  subst hO4
                  obtain ⟨e1, e2, e3⟩ := EN.out _ ⟨#[97]⟩ (ep) (0) (a) i c (numd rest) (g) (HLN.out) B6.out (HC7.out)
                  have e4 := e1.c0
                  have e5 := e1.c1
                  have e6 := e1.c2
                  have e7 := e1.c3
                  refine bodyPost_ret (v := .tuple #[.agg #[.string ⟨#[97]⟩, .int .i64 (ep), .int .i64 (0), .slice (a) i c], .bool true]) ?_ rfl ⟨⟨⟨#[97]⟩, ep, 0, a, i, c, g, numd rest, rfl, HLN.out, e2, fun r hr => by cases hr; exact ⟨rfl, rfl, rfl⟩⟩, e3⟩
                  simp only [results, Tryz.results71]
                  simp [go_sem, e4, e5, e6, e7]
                | false =>
                  rw [if_neg (by simp)] at hO4
                  subst hO4
                  obtain ⟨e1, e2, e3⟩ := EN.out _ ⟨#[97]⟩ (ep) (0) (a) i c (numd rest) (g) (HLN.out) B6.out (HC7.out)
                  have e4 := e1.c0
                  have e5 := e1.c1
                  have e6 := e1.c2
                  have e7 := e1.c3
                  refine bodyPost_ret (v := .tuple #[.agg #[.string ⟨#[97]⟩, .int .i64 (ep), .int .i64 (0), .slice (a) i c], .bool false]) ?_ rfl ⟨⟨⟨#[97]⟩, ep, 0, a, i, c, g, numd rest, rfl, HLN.out, e2, fun r hr => by cases hr⟩, e3⟩
                  simp only [results, Tryz.results71]
                  simp [go_sem, e4, e5, e6, e7]
          · have hb2 : (k.toList == [97]) = false := kind_ne hk2
            by_cases hk3 : k = wT
            · subst hk3
              change w4.cell? ⟨b, 0, none⟩ = some (.string ⟨#[119]⟩) at c0
              have hO3 := HO.out
              unfold kindQ at hO3
              rw [if_neg hk1, if_neg hk2, if_pos rfl] at hO3
              have HO3 : Hid (wQ ep rest = o) := hO3
              clear hO3 HO hk1 hk2
              by_cases hr2 : rest.length = 2
              case neg =>
                obtain rfl : o = none := by rw [← HO3.out]; exact wQ_not hr2
                have hN3 : ((N : Int) == 4) = false := beq_eq_false_iff_ne.2 (by have := HN.out; omega)
                have hN4 : ¬ (N : Int) = 4 := by have := HN.out; omega
                clear HO3 hr2
                have HR9 := F0.out _ B4.out
                have rc0 := HR9.c0
                have rc1 := HR9.c1
                have rc2 := HR9.c2
                have rc3 := HR9.c3
                have rf0 := HR9.fr 0
                have rf1 := HR9.fr 1
                have rf2 := HR9.fr 2
                have rf3 := HR9.fr 3
                clear HR9
                go_wp2
                obtain ⟨e1, e2, e3⟩ := EN.out _ ⟨#[]⟩ (0) (0) (none) 0 0 ([]) (none) (rfl) B4.out ((.nil rfl rfl rfl))
                have e4 := e1.c0
                have e5 := e1.c1
                have e6 := e1.c2
                have e7 := e1.c3
                refine bodyPost_ret (v := .tuple #[.agg #[.string ⟨#[]⟩, .int .i64 (0), .int .i64 (0), .slice (none) 0 0], .bool false]) ?_ rfl ⟨⟨⟨#[]⟩, 0, 0, none, 0, 0, none, [], rfl, rfl, e2, fun r hr => by cases hr⟩, e3⟩
                simp only [results, Tryz.results71]
                simp [go_sem, e4, e5, e6, e7]
              case pos =>
              match rest, hr2 with
              | [tt, dd], _ =>
                obtain rfl : N = 4 := by have := HN.out; simp at this; omega
                have c2 : w4.cell? ⟨b, 2, none⟩ = some (.string tt) := HS4.out.cell 2 (by simp)
                have c3 : w4.cell? ⟨b, 3, none⟩ = some (.string dd) := HS4.out.cell 3 (by simp)
                have hdm := HSM.out dd (by simp)
                have htm := HSM.out tt (by simp)
                unfold maxLen at hdm
                by_cases hd6 : dd.size ≤ 600
                case neg =>
                  obtain rfl : o = none := by
                    rw [← HO3.out]
                    unfold wQ
                    simp only
                    split
                    · rw [if_neg (fun e => hd6 ((addR1_iff _).1 e).2.2)]
                    · rfl
                  have hgd : decide (600 < dd.size) = true := decide_eq_true (by omega)
                  have hgd2 : decide ((600 : Int) < (dd.size : Int)) = true := decide_eq_true (by omega)
                  clear HO3 htm
                  have HR9 := F0.out _ B4.out
                  have rc0 := HR9.c0
                  have rc1 := HR9.c1
                  have rc2 := HR9.c2
                  have rc3 := HR9.c3
                  have rf0 := HR9.fr 0
                  have rf1 := HR9.fr 1
                  have rf2 := HR9.fr 2
                  have rf3 := HR9.fr 3
                  clear HR9
                  go_wp2
                  obtain ⟨e1, e2, e3⟩ := EN.out _ ⟨#[]⟩ (0) (0) (none) 0 0 ([]) (none) (rfl) B4.out ((.nil rfl rfl rfl))
                  have e4 := e1.c0
                  have e5 := e1.c1
                  have e6 := e1.c2
                  have e7 := e1.c3
                  refine bodyPost_ret (v := .tuple #[.agg #[.string ⟨#[]⟩, .int .i64 (0), .int .i64 (0), .slice (none) 0 0], .bool false]) ?_ rfl ⟨⟨⟨#[]⟩, 0, 0, none, 0, 0, none, [], rfl, rfl, e2, fun r hr => by cases hr⟩, e3⟩
                  simp only [results, Tryz.results71]
                  simp [go_sem, e4, e5, e6, e7]
                case pos =>
                have hgd : decide (600 < dd.size) = false := decide_eq_false (by omega)
                have hgd2 : decide ((600 : Int) < (dd.size : Int)) = false := decide_eq_false (by omega)
                obtain ⟨tx, v2, hnum2, hcall2⟩ := refNumber_val tt htm
                have CN2 : Hid (∀ w, Calls Tryz.prog 53 #[.string tt] w fun e w' => e = .returned (.tuple #[.int .i64 tx, .bool v2]) ∧ Below w.heap.size w w') := hcall2
                have hO4 : (match numP tt with | some tx => if addR1 ⟨tx, dd⟩ = true then some (Rq.add ep ⟨tx, dd⟩) else none | none => none) = o := HO3.out
                rw [hnum2] at hO4
                clear HO3 hnum2 hcall2 htm
                go_upto_region 22 with (go_at_call 53; refine (CN2.out _).mono ?_; rintro x w5 ⟨rfl, b5⟩; have B5 : Hid (Below W1.heap.size W1 w5) := bel_tr B4.out b5; have HQ5 : Hid (Qb w5 QB ⟨#[119]⟩ ep 0 (.slice none 0 0)) := HQ.out.1.below b5; have k3 : w5.cell? ⟨b, 3, none⟩ = some (.string dd) := bel_cell b5 c3; clear b5 c0 c2 c3)
                have u2 := HQ5.out.c2
                have uf2 := HQ5.out.fr 2
                have hlb5 : b ≠ QB := HBQ.out
                go_upto_region 23 with fail
                have HQ6 : Hid (Qb (w5.setCell ⟨QB, 2, none⟩ (.int .i64 tx)) QB ⟨#[119]⟩ ep tx (.slice none 0 0)) := HQ5.out.putT tx
                have B6 : Hid (Below W1.heap.size W1 (w5.setCell ⟨QB, 2, none⟩ (.int .i64 tx))) := Below.setCell B5.out HW1Q.out _
                have k3' : (w5.setCell ⟨QB, 2, none⟩ (.int .i64 tx)).cell? ⟨b, 3, none⟩ = some (.string dd) := other hlb5 k3
                clear k3 u2 uf2 B5 HQ5
                generalize w5.setCell ⟨QB, 2, none⟩ (.int .i64 tx) = w6 at *
                have u3 := fun o => ((HQ6.out.below (bel_al w6 o)).c3)
                have uf3 := fun o => ((HQ6.out.below (bel_al w6 o)).fr 3)
                go_upto_region 24 with fail
                have HQ7 : Hid (Qb ((w6.alloc (.cells #[.int .i64 tx, .string dd] 24)).setCell ⟨QB, 3, none⟩ (.slice (some ⟨w6.heap.size, 0, none⟩) 1 1)) QB ⟨#[119]⟩ ep tx (.slice (some ⟨w6.heap.size, 0, none⟩) 1 1)) := (HQ6.out.below (bel_al _ _)).putS _
                have B7 : Hid (Below W1.heap.size W1 ((w6.alloc (.cells #[.int .i64 tx, .string dd] 24)).setCell ⟨QB, 3, none⟩ (.slice (some ⟨w6.heap.size, 0, none⟩) 1 1))) := Below.setCell (bel_tr B6.out (bel_al _ _)) HW1Q.out _
                have HC7 : Hid (Cel (fun q => RB < q) ((w6.alloc (.cells #[.int .i64 tx, .string dd] 24)).setCell ⟨QB, 3, none⟩ (.slice (some ⟨w6.heap.size, 0, none⟩) 1 1)) 2 (.slice (some ⟨w6.heap.size, 0, none⟩) 1 1) 1 (rowC enC [⟨tx, dd⟩]) (some w6.heap.size)) := by
                  have h8 : Cel (fun q => w6.heap.size ≤ q) (w6.alloc (.cells #[.int .i64 tx, .string dd] 24)) 2 (.slice (some ⟨w6.heap.size, 0, none⟩) 1 1) 1 (rowC enC [⟨tx, dd⟩]) (some w6.heap.size) := cel_new w6 _ (Nat.le_refl _) [.int .i64 tx, .string dd] _ 2 1 rfl (by unfold maxLen; omega)
                  have h9 := h8.setOut ⟨QB, 3, none⟩ (.slice (some ⟨w6.heap.size, 0, none⟩) 1 1) (fun e => by have h1 := HQ6.out.lt; have h2 : w6.heap.size = QB := Option.some.inj e; omega)
                  exact h9.stay (Nat.le_refl _) (fun _ _ => rfl) (fun z hz => by have h1 : w6.heap.size ≤ z := hz; have h2 := HQ6.out.lt; have h3 := HZ3.out; omega)
                generalize (w6.alloc (.cells #[.int .i64 tx, .string dd] 24)).setCell ⟨QB, 3, none⟩ (.slice (some ⟨w6.heap.size, 0, none⟩) 1 1) = w7 at *
                generalize w6.heap.size = EB at *
                clear u3 uf3 k3'
                have qc0 := (HQ7.out).c0
                have qc1 := (HQ7.out).c1
                have qc2 := (HQ7.out).c2
                have qc3 := (HQ7.out).c3
                have HR9 := F0.out _ B7.out
                have rc0 := HR9.c0
                have rc1 := HR9.c1
                have rc2 := HR9.c2
                have rc3 := HR9.c3
                have rf0 := HR9.fr 0
                have rf1 := HR9.fr 1
                have rf2 := HR9.fr 2
                have rf3 := HR9.fr 3
                clear HR9
                have hways : (v2 = false ∧ o = none) ∨ (v2 = true ∧ tx < 1 ∧ o = none) ∨ (v2 = true ∧ ¬ tx < 1 ∧ 300 < tx ∧ o = none) ∨ (v2 = true ∧ ¬ tx < 1 ∧ ¬ 300 < tx ∧ o = some (Rq.add ep ⟨tx, dd⟩)) := by
                  cases v2 with
                  | false => rw [if_neg (by simp)] at hO4; exact .inl ⟨rfl, hO4.symm⟩
                  | true =>
                    rw [if_pos rfl] at hO4
                    simp only at hO4
                    by_cases h1 : tx < 1
                    · rw [if_neg (fun e => by have := ((addR1_iff _).1 e).1; simp only at this; omega)] at hO4
                      exact .inr (.inl ⟨rfl, h1, hO4.symm⟩)
                    · by_cases h2 : 300 < tx
                      · rw [if_neg (fun e => by have := ((addR1_iff _).1 e).2.1; simp only at this; omega)] at hO4
                        exact .inr (.inr (.inl ⟨rfl, h1, h2, hO4.symm⟩))
                      · rw [if_pos ((addR1_iff _).2 ⟨by simp only; omega, by simp only; omega, hd6⟩)] at hO4
                        exact .inr (.inr (.inr ⟨rfl, h1, h2, hO4.symm⟩))
                clear hO4
                rcases hways with ⟨rfl, rfl⟩ | ⟨rfl, h1, rfl⟩ | ⟨rfl, h1, h2, rfl⟩ | ⟨rfl, h1, h2, rfl⟩
                · go_wp2
                  obtain ⟨e1, e2, e3⟩ := EN.out _ ⟨#[119]⟩ (ep) (tx) (some ⟨EB, 0, none⟩) 1 1 ([⟨tx, dd⟩] : List En) (some EB) (rfl) B7.out (HC7.out)
                  have e4 := e1.c0
                  have e5 := e1.c1
                  have e6 := e1.c2
                  have e7 := e1.c3
                  refine bodyPost_ret (v := .tuple #[.agg #[.string ⟨#[119]⟩, .int .i64 (ep), .int .i64 (tx), .slice (some ⟨EB, 0, none⟩) 1 1], .bool false]) ?_ rfl ⟨⟨⟨#[119]⟩, ep, tx, some ⟨EB, 0, none⟩, 1, 1, some EB, [⟨tx, dd⟩], rfl, rfl, e2, fun r hr => by cases hr⟩, e3⟩
                  simp only [results, Tryz.results71]
                  simp [go_sem, e4, e5, e6, e7]
                · have hg1 : decide (1 ≤ tx) = false := decide_eq_false (by omega)
                  go_wp2
                  obtain ⟨e1, e2, e3⟩ := EN.out _ ⟨#[119]⟩ (ep) (tx) (some ⟨EB, 0, none⟩) 1 1 ([⟨tx, dd⟩] : List En) (some EB) (rfl) B7.out (HC7.out)
                  have e4 := e1.c0
                  have e5 := e1.c1
                  have e6 := e1.c2
                  have e7 := e1.c3
                  refine bodyPost_ret (v := .tuple #[.agg #[.string ⟨#[119]⟩, .int .i64 (ep), .int .i64 (tx), .slice (some ⟨EB, 0, none⟩) 1 1], .bool false]) ?_ rfl ⟨⟨⟨#[119]⟩, ep, tx, some ⟨EB, 0, none⟩, 1, 1, some EB, [⟨tx, dd⟩], rfl, rfl, e2, fun r hr => by cases hr⟩, e3⟩
                  simp only [results, Tryz.results71]
                  simp [go_sem, e4, e5, e6, e7]
                · have hg1 : decide (1 ≤ tx) = true := decide_eq_true (by omega)
                  have hg2 : decide (tx ≤ 300) = false := decide_eq_false (by omega)
                  go_wp2
                  obtain ⟨e1, e2, e3⟩ := EN.out _ ⟨#[119]⟩ (ep) (tx) (some ⟨EB, 0, none⟩) 1 1 ([⟨tx, dd⟩] : List En) (some EB) (rfl) B7.out (HC7.out)
                  have e4 := e1.c0
                  have e5 := e1.c1
                  have e6 := e1.c2
                  have e7 := e1.c3
                  refine bodyPost_ret (v := .tuple #[.agg #[.string ⟨#[119]⟩, .int .i64 (ep), .int .i64 (tx), .slice (some ⟨EB, 0, none⟩) 1 1], .bool false]) ?_ rfl ⟨⟨⟨#[119]⟩, ep, tx, some ⟨EB, 0, none⟩, 1, 1, some EB, [⟨tx, dd⟩], rfl, rfl, e2, fun r hr => by cases hr⟩, e3⟩
                  simp only [results, Tryz.results71]
                  simp [go_sem, e4, e5, e6, e7]
                · have hg1 : decide (1 ≤ tx) = true := decide_eq_true (by omega)
                  have hg2 : decide (tx ≤ 300) = true := decide_eq_true (by omega)
                  go_wp2
                  obtain ⟨e1, e2, e3⟩ := EN.out _ ⟨#[119]⟩ (ep) (tx) (some ⟨EB, 0, none⟩) 1 1 ([⟨tx, dd⟩] : List En) (some EB) (rfl) B7.out (HC7.out)
                  have e4 := e1.c0
                  have e5 := e1.c1
                  have e6 := e1.c2
                  have e7 := e1.c3
                  refine bodyPost_ret (v := .tuple #[.agg #[.string ⟨#[119]⟩, .int .i64 (ep), .int .i64 (tx), .slice (some ⟨EB, 0, none⟩) 1 1], .bool true]) ?_ rfl ⟨⟨⟨#[119]⟩, ep, tx, some ⟨EB, 0, none⟩, 1, 1, some EB, [⟨tx, dd⟩], rfl, rfl, e2, fun r hr => by cases hr; exact ⟨rfl, rfl, rfl, rfl⟩⟩, e3⟩
                  simp only [results, Tryz.results71]
                  simp [go_sem, e4, e5, e6, e7]
            · have hb3 : (k.toList == [119]) = false := kind_ne hk3
              have hO3 := HO.out
              unfold kindQ at hO3
              rw [if_neg hk1, if_neg hk2, if_neg hk3] at hO3
              subst hO3
              clear HO hk1 hk2 hk3
              have HR9 := F0.out _ B4.out
              have rc0 := HR9.c0
              have rc1 := HR9.c1
              have rc2 := HR9.c2
              have rc3 := HR9.c3
              have rf0 := HR9.fr 0
              have rf1 := HR9.fr 1
              have rf2 := HR9.fr 2
              have rf3 := HR9.fr 3
              clear HR9
              go_wp2
              obtain ⟨e1, e2, e3⟩ := EN.out _ ⟨#[]⟩ (0) (0) (none) 0 0 ([]) (none) (rfl) B4.out ((.nil rfl rfl rfl))
              have e4 := e1.c0
              have e5 := e1.c1
              have e6 := e1.c2
              have e7 := e1.c3
              refine bodyPost_ret (v := .tuple #[.agg #[.string ⟨#[]⟩, .int .i64 (0), .int .i64 (0), .slice (none) 0 0], .bool false]) ?_ rfl ⟨⟨⟨#[]⟩, 0, 0, none, 0, 0, none, [], rfl, rfl, e2, fun r hr => by cases hr⟩, e3⟩
              simp only [results, Tryz.results71]
              simp [go_sem, e4, e5, e6, e7]
end Go.Proofs.YtfmhmokbbkliaaaGreat.Jrn

/- The document's disk, the reference's node as things; the contracts of tabulariumref15.answer, promise. -/
namespace Go.Proofs.YtfmhmokbbkliaaaGreat.Jrn
open Go.RowKit Go.Proofs.YtfmhmokbbkliaaaGreat Go.Proofs.YtfmhmokbbkliaaaGreat.Wir Go.Proofs.YtfmhmokbbkliaaaGreat.Lgg Go.Proofs.YtfmhmokbbkliaaaGreat.Sep
open Go.Proofs.YtfmhmokbbkliaaaGreat.Smm (refSeal_yes)
set_option linter.unusedVariables false

theorem rat_wide {O O' : Nat → Prop} {w : World} {p : Nat} {a : Option Addr} {c : Nat} {g : Option Nat} {ds : DS} (h : RAt O w p a c g ds) (hO : ∀ k, O k → O' k) (hl : ∀ k, O' k → k < w.heap.size) : RAt O' w p a c g ds :=
  ⟨hl, hO p h.oP, h.c0, h.c1, h.c2, h.c3, h.f1, h.f2, h.f3, h.cel.stay (Nat.le_refl _) (fun _ _ => rfl) hO, h.ne⟩
/-- The document's disk. -/
def xdk (px : Nat) (ds : DS) : Th := ⟨fun O w => (∃ a c g, RAt O w px a c g ds) ∧ Fit ds, fun ⟨⟨a, c, g, h⟩, hf⟩ hs hd => ⟨⟨a, c, g, h.stay hs hd⟩, hf⟩, fun ⟨⟨a, c, g, h⟩, hf⟩ => h.lt, fun ⟨⟨a, c, g, h⟩, hf⟩ hO hl => ⟨⟨a, c, g, rat_wide h hO hl⟩, hf⟩⟩
theorem xdk_acts {F : Nat} {args : Array Value} {ds ds' : DS} {R : Ending} {px : Nat} {w : World} (c : ∀ w0 K, Xk w0 K w px ds → Calls Tryz.prog F args w fun e w' => e = R ∧ Xk w0 K w' px ds' ∧ Stay (fun k => ¬ K k) w w') :
    Acts Tryz.prog F args (xdk px ds) w (fun e _ => e = R) (xdk px ds') := by
  rintro O ⟨⟨a, c0, g, h0⟩, hf⟩
  refine (c { w with heap := #[] } (fun k => k < w.heap.size ∧ ¬ O k) ⟨⟨O, a, c0, g, h0, fun k hk => ⟨Nat.zero_le _, fun e => e.2 hk⟩, ⟨rfl, rfl, rfl, Nat.zero_le _, fun k hk => absurd hk (Nat.not_lt_zero _)⟩, fun k hk => hk.1⟩, hf⟩).mono ?_
  rintro e w' ⟨h1, h2, h3⟩
  obtain ⟨O', a', c', g', k1, k2, _, _⟩ := h2.ex
  have hs : Stay O w w' := ⟨h3.os, h3.tape, h3.output, h3.size, fun k hk hn => h3.block k hk (fun e => e ⟨hk, hn⟩)⟩
  refine ⟨h1, ⟨⟨a', c', g', rat_wide k1 (fun k hk => ?_) (grow_lt h0.lt h3.size)⟩, h2.fit⟩, hs⟩
  by_cases hlt : k < w.heap.size
  · by_cases ho : O k
    · exact .inl ho
    · exact absurd ⟨hlt, ho⟩ (k2 k hk).2
  · exact .inr ⟨by omega, k1.lt k hk⟩
theorem refPlace_acts {w : World} {px : Nat} {ds ds' : DS} (s b : ByteArray) (hs : s.size ≤ 16) (hb : b.size ≤ 140737488355328) (q : Int) (hq : stoR ds s b = (q, ds')) :
    Acts Tryz.prog 106 #[.pointer (some ⟨px, 0, none⟩), .string s, .string b] (xdk px ds) w (fun e _ => e = .returned (.int .i64 q)) (xdk px ds') :=
  xdk_acts fun w0 K h => refPlace_val h s b hs hb q hq
theorem sto_rel {ds ds' : DS} {s : ByteArray} {l : Lg} {q : Int} (hR : RtL l) (hs : nmOk s = true) (hq : stoR ds s (encL l) = (q, ds')) : StoS ds s l q ds' := ⟨fun _ _ => hq, fun h => h.elim (fun e => absurd hR e) (fun e => by rw [hs] at e; cases e)⟩
theorem refStore_acts {w : World} {px : Nat} {ds ds' : DS} {O : Nat → Prop} {a : Option Addr} {es : List En} (hl : Lie enC O w a es) (ep : Int) (n c : Nat) (hn : es.length = n) (hR : RtL ⟨ep, es⟩) (s : ByteArray) (hs : nmOk s = true) (hsz : s.size ≤ maxLen) (q : Int) (hq : stoR ds s (encL ⟨ep, es⟩) = (q, ds')) :
    Acts Tryz.prog 62 #[.pointer (some ⟨px, 0, none⟩), .string s, .agg #[.int .i64 ep, .slice a n c]] (xdk px ds) w (fun e _ => e = .returned (.int .i64 q)) (xdk px ds') :=
  xdk_acts fun w0 K h => refStore_any h s hsz hl (fun x hx => by
    obtain ⟨i, hi, rfl⟩ := List.getElem_of_mem hx
    have := (hR.2.2 i hi).2
    unfold maxLen; simp only at this; omega) ep n c hn q (sto_rel hR hs hq)
theorem refAdd_acts {w : World} {px : Nat} {ds ds' : DS} (x : En) (h1 : 1 ≤ x.tx) (h2 : x.tx ≤ 300) (hd : x.d.size ≤ 600) (s : ByteArray) (hs : nmOk s = true) (hsz : s.size ≤ maxLen) (q : Int) (hq : addR ds s (encE x) = (q, ds')) :
    Acts Tryz.prog 116 #[.pointer (some ⟨px, 0, none⟩), .string s, .agg #[.int .i64 x.tx, .string x.d]] (xdk px ds) w (fun e _ => e = .returned (.int .i64 q)) (xdk px ds') :=
  xdk_acts fun w0 K h => refAdd_any h s hsz x (by unfold maxLen; omega) q ⟨fun _ _ _ _ => hq, fun h => absurd ⟨hd, h1, h2, hs⟩ h⟩

/-! ### the reference's node -/
def rjV (px : Nat) (r : Nd) (a : Option Addr) (c : Nat) : List Value := [.pointer (some ⟨px, 0, none⟩), .int .i64 r.p, .int .i64 r.l.ep, .slice a r.l.es.length c, .bool r.gone]
def rjL (yp px : Nat) (ds : DS) (r : Nd) (a : Option Addr) (c : Nat) (g : Option Nat) : List Th :=
  [box yp (rjV px r a c), xdk px ds, celT 2 (.slice a r.l.es.length c) r.l.es.length (rowC enC r.l.es) g]
def rj (yp px : Nat) (ds : DS) (r : Nd) : Th := some' fun x : JrI => all (rjL yp px ds r x.a x.c x.g)
section
variable {w w1 : World} {O : Nat → Prop} {yp px : Nat} {ds : DS} {r : Nd} {a : Option Addr} {c : Nat} {g : Option Nat}
theorem rj_done (h : Hz w O (rjL yp px ds r a c g) w1) : (rj yp px ds r).A (Grow O w w1) w1 ∧ Stay O w w1 := ⟨⟨⟨a, c, g⟩, h.done_all.1⟩, h.done_all.2⟩
theorem rj_fold {M : List Th} (h : Hz w O (rjL yp px ds r a c g ++ M) w1) : Hz w O (rj yp px ds r :: M) w1 := Hz.mk' (f := fun x : JrI => all (rjL yp px ds r x.a x.c x.g)) (x := ⟨a, c, g⟩) h.fold
theorem rj_open {M : List Th} (h : Hz w O (rj yp px ds r :: M) w1) : ∃ a c g, Hz w O (rjL yp px ds r a c g ++ M) w1 := by
  obtain ⟨x, h⟩ := Hz.ex' h
  exact ⟨x.a, x.c, x.g, h.unfold⟩
theorem rj_cells {M : List Th} (h : Hz w O (rjL yp px ds r a c g ++ M) w1) : w1.cell? ⟨yp, 0, none⟩ = some (.pointer (some ⟨px, 0, none⟩)) ∧ w1.cell? ⟨yp, 1, none⟩ = some (.int .i64 r.p) ∧ w1.cell? ⟨yp, 2, none⟩ = some (.int .i64 r.l.ep) ∧ w1.cell? ⟨yp, 3, none⟩ = some (.slice a r.l.es.length c) ∧ w1.cell? ⟨yp, 4, none⟩ = some (.bool r.gone) ∧ ∀ i, w1.frozen? ⟨yp, i, none⟩ = false :=
  ⟨h.cell 0 rfl rfl, h.cell 0 rfl rfl, h.cell 0 rfl rfl, h.cell 0 rfl rfl, h.cell 0 rfl rfl, h.fr 0 rfl⟩
end

/-! ### what it does -/
structure ROut where
  q : Int
  ds : DS
  r : Nd
def promR (ds : DS) (r : Nd) (ep : Int) : ROut := ⟨(stoR ds prN (encL ⟨ep, []⟩)).1, (stoR ds prN (encL ⟨ep, []⟩)).2, if (stoR ds prN (encL ⟨ep, []⟩)).1 = 0 then ⟨ep, r.l, r.gone⟩ else r⟩
def freshR (ds : DS) (r : Nd) (ep : Int) (es : List En) : ROut := ⟨(stoR ds lgN (encL ⟨ep, es⟩)).1, (stoR ds lgN (encL ⟨ep, es⟩)).2, if (stoR ds lgN (encL ⟨ep, es⟩)).1 = 0 then ⟨r.p, ⟨ep, es⟩, r.gone⟩ else r⟩
def accR (ds : DS) (r : Nd) (ep : Int) (es : List En) : ROut :=
  if ep < r.p then ⟨10, ds, r⟩
  else if ep = r.l.ep then ⟨if begB es r.l.es = true then 0 else 11, ds, r⟩
  else if r.p < ep then (if (promR ds r ep).q = 0 then freshR (promR ds r ep).ds (promR ds r ep).r ep es else promR ds r ep)
  else freshR ds r ep es
def addRR (ds : DS) (r : Nd) (ep : Int) (x : En) : ROut :=
  if ep ≠ r.p ∨ ep ≠ r.l.ep then ⟨10, ds, r⟩
  else if ((r.l.es.length : Nat) : Int) + 1 < x.tx then ⟨11, ds, r⟩
  else if x.tx ≤ (r.l.es.length : Nat) then ⟨if r.l.es[x.tx.toNat - 1]? = some x then 0 else 11, ds, r⟩
  else ⟨(addR ds lgN (encE x)).1, (addR ds lgN (encE x)).2, if (addR ds lgN (encE x)).1 = 0 then ⟨r.p, ⟨r.l.ep, r.l.es ++ [x]⟩, r.gone⟩ else r⟩
def doR (ds : DS) (r : Nd) : Rq → ROut
  | .prom ep => if ep ≤ r.p then ⟨10, ds, r⟩ else promR ds r ep
  | .acc ep es => accR ds r ep es
  | .add ep x => addRR ds r ep x

/-! ### errors of the disk -/
def DskE (e : Int) : Prop := e = 0 ∨ e = 1 ∨ e = 4 ∨ e = 5 ∨ e = 8 ∨ e = 12
theorem beg_e {ds : DS} {e : Int} (h : DskE e) : DskE (begE ds e) := by
  unfold begE
  split
  · unfold DskE; omega
  · split
    · split
      · unfold DskE; omega
      · exact .inl rfl
    · exact h
theorem refM_e (S : FS) (n : List UInt8) : DskE (refM S n) := by unfold refM DskE; split <;> omega
theorem refR_e (S : FS) (a b : List UInt8) : DskE (refR S a b) := by
  unfold refR
  split
  · exact refM_e _ _
  · unfold DskE; omega
theorem refA_e (ds : DS) (n d : List UInt8) : DskE (refA ds n d) := by
  unfold refA DskE
  split
  · split
    · omega
    · split
      · omega
      · split <;> omega
  · omega
theorem rdE_e (ds : DS) (n : List UInt8) : DskE (rdE ds n) := by have := rdE_cases ds n; unfold DskE; omega
theorem delR_e (ds : DS) (n : List UInt8) : DskE (delR ds n).1 := by
  unfold delR
  split
  · exact .inl rfl
  · split
    · exact beg_e (refM_e _ _)
    · exact rdE_e _ _
theorem apsR_e (ds : DS) (n d : List UInt8) : DskE (apsR ds n d).1 := by
  unfold apsR
  split
  · exact beg_e (refM_e _ _)
  · exact beg_e (refA_e _ _ _)
theorem stoR_dsk (ds : DS) (s b : ByteArray) : DskE (stoR ds s b).1 := by
  unfold stoR
  split
  · split
    · exact beg_e (refR_e _ _ _)
    · exact apsR_e _ _ _
  · exact delR_e _ _
theorem addR_dsk (ds : DS) (s b : ByteArray) : DskE (addR ds s b).1 := by
  unfold addR
  split
  · exact apsR_e _ _ _
  · exact rdE_e _ _
/-- What the program does and what the reference does. -/
def Like (d : Out) (x : ROut) : Prop := d.ds = x.ds ∧ ((x.q = 0 ∨ x.q = 10 ∨ x.q = 11) ∧ d.e = x.q ∧ d.j = x.r ∨ ¬ (x.q = 0 ∨ x.q = 10 ∨ x.q = 11) ∧ d.e = 12 ∧ d.j = deadN)
theorem dsk_no {e : Int} (h : DskE e) (h0 : e ≠ 0) : ¬ (e = 0 ∨ e = 10 ∨ e = 11) := by unfold DskE at h; omega
theorem prom_like (ds : DS) (r : Nd) (ep : Int) (h : ¬ ep ≤ r.p) : Like (promQ ds r ep) (promR ds r ep) := by
  have hd := stoR_dsk ds prN (encL ⟨ep, []⟩)
  unfold promQ promR
  rw [if_neg h]
  by_cases h0 : (stoR ds prN (encL ⟨ep, []⟩)).1 = 0
  · rw [if_pos h0, if_pos h0]; exact ⟨rfl, .inl ⟨.inl h0, h0.symm, rfl⟩⟩
  · rw [if_neg h0, if_neg h0]; exact ⟨rfl, .inr ⟨dsk_no hd h0, rfl, rfl⟩⟩
theorem fresh_like (ds : DS) (r : Nd) (ep : Int) (es : List En) : Like (fresh ds r ep es) (freshR ds r ep es) := by
  have hd := stoR_dsk ds lgN (encL ⟨ep, es⟩)
  unfold fresh freshR
  by_cases h0 : (stoR ds lgN (encL ⟨ep, es⟩)).1 = 0
  · rw [if_pos h0, if_pos h0]; exact ⟨rfl, .inl ⟨.inl h0, h0.symm, rfl⟩⟩
  · rw [if_neg h0, if_neg h0]; exact ⟨rfl, .inr ⟨dsk_no hd h0, rfl, rfl⟩⟩
theorem same_like {ds : DS} {r : Nd} {e : Int} (h : e = 0 ∨ e = 10 ∨ e = 11) : Like ⟨e, ds, r⟩ ⟨e, ds, r⟩ := ⟨rfl, .inl ⟨h, rfl, rfl⟩⟩
theorem do_like (ds : DS) (r : Nd) (q : Rq) : Like (doQ ds r q) (doR ds r q) := by
  cases q with
  | prom ep =>
    show Like (promQ ds r ep) (if ep ≤ r.p then ⟨10, ds, r⟩ else promR ds r ep)
    by_cases h : ep ≤ r.p
    · unfold promQ; rw [if_pos h, if_pos h]; exact same_like (.inr (.inl rfl))
    · rw [if_neg h]; exact prom_like ds r ep h
  | acc ep es =>
    show Like (accQ ds r ep es) (accR ds r ep es)
    unfold accQ accR
    by_cases h1 : ep < r.p
    · rw [if_pos h1, if_pos h1]; exact same_like (.inr (.inl rfl))
    · rw [if_neg h1, if_neg h1]
      by_cases h2 : ep = r.l.ep
      · rw [if_pos h2, if_pos h2]
        by_cases hb : begB es r.l.es = true
        · rw [if_pos hb]; exact same_like (.inl rfl)
        · rw [if_neg hb]; exact same_like (.inr (.inr rfl))
      · rw [if_neg h2, if_neg h2]
        by_cases h3 : r.p < ep
        · rw [if_pos h3, if_pos h3]
          obtain ⟨k1, k2⟩ := prom_like ds r ep (by omega)
          rcases k2 with ⟨k3, k4, k5⟩ | ⟨k3, k4, k5⟩
          · have hne : (promR ds r ep).q = 0 := by
              have hd : DskE (promR ds r ep).q := stoR_dsk ds prN (encL ⟨ep, []⟩)
              unfold DskE at hd; omega
            rw [if_pos (by omega), if_pos hne, k1, k5]
            exact fresh_like _ _ ep es
          · rw [if_neg (by omega), if_neg (by omega)]
            exact ⟨k1, .inr ⟨k3, k4, k5⟩⟩
        · rw [if_neg h3, if_neg h3]; exact fresh_like ds r ep es
  | add ep x =>
    show Like (addQ ds r ep x) (addRR ds r ep x)
    unfold addQ addRR
    by_cases h1 : ep ≠ r.p ∨ ep ≠ r.l.ep
    · rw [if_pos h1, if_pos h1]; exact same_like (.inr (.inl rfl))
    · rw [if_neg h1, if_neg h1]
      by_cases h2 : ((r.l.es.length : Nat) : Int) + 1 < x.tx
      · rw [if_pos h2, if_pos h2]; exact same_like (.inr (.inr rfl))
      · rw [if_neg h2, if_neg h2]
        by_cases h3 : x.tx ≤ (r.l.es.length : Nat)
        · rw [if_pos h3, if_pos h3]
          by_cases hb : r.l.es[x.tx.toNat - 1]? = some x
          · rw [if_pos hb]; exact same_like (.inl rfl)
          · rw [if_neg hb]; exact same_like (.inr (.inr rfl))
        · rw [if_neg h3, if_neg h3]
          have hd := addR_dsk ds lgN (encE x)
          by_cases h0 : (addR ds lgN (encE x)).1 = 0
          · rw [if_pos h0, if_pos h0]; exact ⟨rfl, .inl ⟨.inl h0, h0.symm, rfl⟩⟩
          · rw [if_neg h0, if_neg h0]; exact ⟨rfl, .inr ⟨dsk_no hd h0, rfl, rfl⟩⟩

set_option maxRecDepth 100000 in
theorem refAnswer_val (e : Int) (h0 : -9223372036854775808 ≤ e) (h1 : e ≤ 9223372036854775807) (J : ByteArray) (hJ : ansT e [] = J) (w : World) :
    Calls Tryz.prog 70 #[.int .i64 e] w fun x w' => x = .returned (.string J) ∧ Below w.heap.size w w' := by
  have HN : Hid (Calls Tryz.prog 47 #[.int .i64 e] w fun x w' => x = .returned (.string (numT e)) ∧ Below w.heap.size w w') := ref15Num_val e w h0 h1
  unfold ansT at hJ
  have HJ : Hid (∀ (W : World) (b : Nat), Strs W (some ⟨b, 0, none⟩) b 0 [numT e] → Calls Tryz.prog 48 #[.slice (some ⟨b, 0, none⟩) 1 1] W fun x w' => x = .returned (.string J) ∧ Below W.heap.size W w') := fun W b hS => refJoined_val hS 1 1 rfl J hJ
  have HSM : Hid (∀ s ∈ [numT e], s.size ≤ maxLen) := by
    have h2 := numT_size h0 h1
    intro s hs
    simp at hs
    subst hs
    unfold maxLen; omega
  clear hJ h0 h1
  generalize numT e = X at *
  go_enter Tryz.func70, Tryz.ntmps70
  go_wp2_with fail
  refine HN.out.mono ?_
  rintro x w1 ⟨rfl, b1⟩
  have B1 : Hid (Below w.heap.size w w1) := b1
  clear b1
  go_wp2_with fail
  refine (HJ.out _ _ (strs_new w1 [X] _ HSM.out (len_ok (by simp)))).mono ?_
  rintro x w2 ⟨rfl, b2⟩
  go_wp2
  go_ret
  exact ⟨rfl, bel_tr B1.out (bel_tr (bel_al _ _) b2)⟩

set_option maxRecDepth 100000 in
set_option maxHeartbeats 2000000 in
theorem refPromise_acts {yp px : Nat} {ds : DS} {r : Nd} {w : World} (ep : Int) (he : epR ep = true) :
    Acts Tryz.prog 115 #[.pointer (some ⟨yp, 0, none⟩), .int .i64 ep] (rj yp px ds r) w (fun e _ => e = .returned (.int .i64 (promR ds r ep).q)) (rj yp px (promR ds r ep).ds (promR ds r ep).r) := by
  rintro O ⟨⟨a, c, g⟩, hS⟩
  have hz : Hz w O (rjL yp px ds r a c g ++ []) w := Hz.start (by rw [List.append_nil]; exact hS)
  have HZ : Hid (Hz w O (rjL yp px ds r a c g ++ []) w) := hz
  clear hz hS
  have hep := (epR_iff ep).1 he
  unfold maxN at hep
  have hz10 := numT_size (n := ep) (by omega) (by omega)
  have CN : Hid (Calls Tryz.prog 47 #[.int .i64 ep] w fun e w' => e = .returned (.string (numT ep)) ∧ Below w.heap.size w w') := ref15Num_val ep w (by omega) (by omega)
  have heb : Go.Proofs.YtfmhmokbbkliaaaGreat.Smm.sealB (numT ep) = encL ⟨ep, []⟩ := by unfold encL; exact (app_empty _).symm
  have hbs : (encL ⟨ep, []⟩).size ≤ 200000 := enc_bound (rt_ep (epR_ok he))
  obtain ⟨J, hJ⟩ : ∃ J, encL ⟨ep, []⟩ = J := ⟨_, rfl⟩
  rw [hJ] at heb hbs
  have CS : Hid (∀ W, Calls Tryz.prog 128 #[.string (numT ep)] W fun e w' => e = .returned (.tuple #[.string J, .bool true]) ∧ Below W.heap.size W w') := fun W => by
    have := refSeal_yes (numT ep) W (by omega)
    rw [heb] at this; exact this
  obtain ⟨⟨q, ds1⟩, hq⟩ : ∃ x, stoR ds prN J = x := ⟨_, rfl⟩
  have hP : promR ds r ep = ⟨q, ds1, if q = 0 then ⟨ep, r.l, r.gone⟩ else r⟩ := by unfold promR; rw [hJ, hq]
  rw [hP]
  have CP : Hid (∀ W, Hz w O (rjL yp px ds r a c g ++ []) W → Calls Tryz.prog 106 #[.pointer (some ⟨px, 0, none⟩), .string prN, .string J] W fun e w' => e = .returned (.int .i64 q) ∧ Hz w O (rjL yp px ds1 r a c g ++ []) w') := fun W h => h.act 1 rfl (refPlace_acts prN J (by show 7 ≤ 16; omega) (by omega) q hq)
  clear hP hq hJ heb hbs hz10 hep
  generalize numT ep = X at *
  by_cases h0 : q = 0
  · subst h0
    rw [if_pos rfl]
    go_enter Tryz.func115, Tryz.ntmps115
    go_wp2_with fail
    refine CN.out.mono ?_
    rintro e w1 ⟨rfl, b1⟩
    have HZ1 : Hid (Hz w O (rjL yp px ds r a c g ++ []) w1) := HZ.out.below b1
    clear b1 HZ
    go_wp2_with fail
    refine (CS.out _).mono ?_
    rintro e w2 ⟨rfl, b2⟩
    have HZ2 : Hid (Hz w O (rjL yp px ds r a c g ++ []) w2) := HZ1.out.below b2
    clear b2 HZ1
    have x0 := (rj_cells HZ2.out).1
    go_wp2_with (go_at_call 106; refine (CP.out _ HZ2.out).mono ?_; rintro e w3 ⟨rfl, hz3⟩; have HZ3 : Hid (Hz w O (rjL yp px ds1 r a c g ++ []) w3) := hz3; clear hz3 HZ2 x0; have y1 := (rj_cells HZ3.out).2.1; have g1 := (rj_cells HZ3.out).2.2.2.2.2 1)
    go_ret
    exact ⟨rfl, (rj_fold (r := ⟨ep, r.l, r.gone⟩) (HZ3.out.setBox 0 rfl 1 (.int .i64 ep) (by simp [rjV]))).done1⟩
  · rw [if_neg h0]
    have hnb : (q == 0) = false := beq_eq_false_iff_ne.2 h0
    go_enter Tryz.func115, Tryz.ntmps115
    go_wp2_with fail
    refine CN.out.mono ?_
    rintro e w1 ⟨rfl, b1⟩
    have HZ1 : Hid (Hz w O (rjL yp px ds r a c g ++ []) w1) := HZ.out.below b1
    clear b1 HZ
    go_wp2_with fail
    refine (CS.out _).mono ?_
    rintro e w2 ⟨rfl, b2⟩
    have HZ2 : Hid (Hz w O (rjL yp px ds r a c g ++ []) w2) := HZ1.out.below b2
    clear b2 HZ1
    have x0 := (rj_cells HZ2.out).1
    go_wp2_with (go_at_call 106; refine (CP.out _ HZ2.out).mono ?_; rintro e w3 ⟨rfl, hz3⟩; have HZ3 : Hid (Hz w O (rjL yp px ds1 r a c g ++ []) w3) := hz3; clear hz3 HZ2 x0)
    go_ret
    exact ⟨rfl, (rj_fold HZ3.out).done1⟩
end Go.Proofs.YtfmhmokbbkliaaaGreat.Jrn

/- The contract of tabulariumref15.Journal.does. -/
namespace Go.Proofs.YtfmhmokbbkliaaaGreat.Jrn
open Go.RowKit Go.Proofs.YtfmhmokbbkliaaaGreat Go.Proofs.YtfmhmokbbkliaaaGreat.Wir Go.Proofs.YtfmhmokbbkliaaaGreat.Lgg Go.Proofs.YtfmhmokbbkliaaaGreat.Sep
open Go.Proofs.YtfmhmokbbkliaaaGreat.Smm (bytes_ne)
set_option linter.unusedVariables false

theorem rj_snoc {O : Nat → Prop} {w w1 : World} {yp px : Nat} {ds : DS} {r : Nd} {x : En} {a : Option Addr} {c : Nat} {g : Option Nat} {n : Nat} (hn : r.l.es.length = n) {M : List Th}
    (h : Hz w O ([box yp [.pointer (some ⟨px, 0, none⟩), .int .i64 r.p, .int .i64 r.l.ep, .slice a (n + 1) c, .bool r.gone], xdk px ds, celT 2 (.slice a (n + 1) c) (n + 1) (rowC enC r.l.es ++ [.int .i64 x.tx, .string x.d]) g] ++ M) w1) :
    Hz w O (rjL yp px ds ⟨r.p, ⟨r.l.ep, r.l.es ++ [x]⟩, r.gone⟩ a c g ++ M) w1 := by
  subst hn
  have e1 : (r.l.es ++ [x]).length = r.l.es.length + 1 := by simp
  have e2 : rowC enC (r.l.es ++ [x]) = rowC enC r.l.es ++ [.int .i64 x.tx, .string x.d] := by rw [rowC_app, rowC_one]; rfl
  unfold rjL rjV
  simp only [e1, e2]
  exact h
theorem perm3 {O : Nat → Prop} {w w1 : World} {A B C D : Th} {L : List Th} (h : Hz w O (A :: B :: C :: D :: L) w1) : Hz w O (A :: B :: D :: C :: L) w1 := by
  obtain ⟨⟨O1, O2, k1, ⟨O3, O4, j1, ⟨O5, O6, i1, ⟨O7, O8, e1, e2, e3, e4, e5, e6⟩, i3, i4, i5, i6⟩, j3, j4, j5, j6⟩, k3, k4, k5, k6⟩, h2⟩ := h
  exact ⟨⟨O1, O2, k1, ⟨O3, O4, j1, ⟨O7, fun k => O5 k ∨ O8 k, e1, ⟨O5, O8, i1, e2, fun k a b => i3 k a (e5 k b), fun k hk => .inl hk, fun k hk => .inr hk, fun k hk => i6 k (hk.elim (i4 k) (fun e => i5 k (e5 k e)))⟩, fun k a b => b.elim (fun e => i3 k e (e4 k a)) (e3 k a), fun k hk => i5 k (e4 k hk), fun k hk => hk.elim (i4 k) (fun e => i5 k (e5 k e)), i6⟩, j3, j4, j5, j6⟩, k3, k4, k5, k6⟩, h2⟩
theorem hz_row {O : Nat → Prop} {w w1 : World} {L : List Th} {b c : Nat} {tx : Int} {d : ByteArray} {g : Option Nat} (h : Hz w O L w1) (i : Nat) (hi : L[i]? = some (celT 2 (.slice (some ⟨b, 0, none⟩) 1 c) 1 (rowC enC [⟨tx, d⟩]) g)) : w1.cell? ⟨b, 0, none⟩ = some (.int .i64 tx) ∧ w1.cell? ⟨b, 1, none⟩ = some (.string d) := by
  obtain ⟨O9, hRow⟩ := h.get i hi
  obtain ⟨eb2, heb, _, hec⟩ := hRow.1.elem wideN (i := 0) (by simp) rfl
  cases heb
  exact ⟨by have h9 := hec 0 _ rfl; simpa using h9, by have h9 := hec 1 _ rfl; simpa using h9⟩
theorem celT_new {w w1 w2 : World} {O : Nat → Prop} {L : List Th} {k n : Nat} {sl : Value} {cs : List Value} {g : Option Nat} (h : Hz w O L w1) (hs : Stay (fun q => (none : Option Nat) = some q) w1 w2) (hC : Cel (Grow (fun _ => False) w1 w2) w2 k sl n cs g) : Hz w O (celT k sl n cs g :: L) w2 := by
  have hb : Below w1.heap.size w1 w2 := ⟨hs.os, hs.tape, hs.output, hs.size, fun q hq => hs.block q hq (fun e => by cases e)⟩
  exact h.put hb ⟨hC.stay (Nat.le_refl _) (fun _ _ => rfl) (fun q hq => hq.elim (fun e => e.elim) id), fun q hq => hq.2⟩
/-- What the call holds at its start. -/
theorem does_start {w : World} {O : Nat → Prop} {yp px : Nat} {ds : DS} {r : Nd} {a : Option Addr} {n c : Nat} {es : List En} {g : Option Nat} (k : ByteArray) (ep tx : Int) (T : TypeId) (hS : (all [rj yp px ds r, celT 2 (.slice a n c) n (rowC enC es) g]).A O w) :
    ∃ ja jc jg, Hz w O (rjL yp px ds r ja jc jg ++ [box w.heap.size [.string k, .int .i64 ep, .int .i64 tx, .slice a n c], celT 2 (.slice a n c) n (rowC enC es) g]) (w.alloc (.cells #[.string k, .int .i64 ep, .int .i64 tx, .slice a n c] T)) := by
  have hz : Hz w O [rj yp px ds r, celT 2 (.slice a n c) n (rowC enC es) g] w := Hz.start hS
  exact rj_open (hz.box [.string k, .int .i64 ep, .int .i64 tx, .slice a n c] T).swap

set_option maxRecDepth 100000 in
set_option maxHeartbeats 4000000 in
theorem does_prom {yp px : Nat} {ds : DS} {r : Nd} {w : World} {a : Option Addr} {n c : Nat} {es : List En} {g : Option Nat} (ep tx : Int) (he : epR ep = true) :
    Acts Tryz.prog 72 #[.pointer (some ⟨yp, 0, none⟩), .agg #[.string ⟨#[112]⟩, .int .i64 ep, .int .i64 tx, .slice a n c]] (all [rj yp px ds r, celT 2 (.slice a n c) n (rowC enC es) g]) w (fun e _ => e = .returned (.int .i64 (doR ds r (.prom ep)).q)) (rj yp px (doR ds r (.prom ep)).ds (doR ds r (.prom ep)).r) := by
  intro O hS
  obtain ⟨ja, jc, jg, hz⟩ := does_start ⟨#[112]⟩ ep tx 128 hS
  have HZ0 : Hid (Hz w O (rjL yp px ds r ja jc jg ++ [box w.heap.size [.string ⟨#[112]⟩, .int .i64 ep, .int .i64 tx, .slice a n c], celT 2 (.slice a n c) n (rowC enC es) g]) (w.alloc (.cells #[.string ⟨#[112]⟩, .int .i64 ep, .int .i64 tx, .slice a n c] 128))) := hz
  clear hz hS
  obtain ⟨P, hP⟩ : ∃ P, r.p = P := ⟨_, rfl⟩
  obtain ⟨E, hE⟩ : ∃ E, r.l.ep = E := ⟨_, rfl⟩
  obtain ⟨m, hm⟩ : ∃ m, r.l.es.length = m := ⟨_, rfl⟩
  have hst2 : ∀ (w : World) (a : Addr) (x : Option Addr) (n c : Nat) (m : Mode), (store a (.slice x n c) m).run Tryz.prog w = stored Tryz.prog w a (.slice x n c) m := fun w a x n c m => run_store (P := Tryz.prog) w a _ m rfl
  go_enter Tryz.func72, Tryz.ntmps72
  go_upto_region 1 with fail
  generalize w.alloc (.cells #[.string ⟨#[112]⟩, .int .i64 ep, .int .i64 tx, .slice a n c] 128) = W1 at *
  generalize w.heap.size = XB at *
  obtain ⟨x0, x1, x2, x3, x4, xf⟩ := rj_cells HZ0.out
  rw [hP] at x1
  rw [hE] at x2
  rw [hm] at x3
  have q0 := HZ0.out.cell 3 rfl (j := 0) rfl
  have q1 := HZ0.out.cell 3 rfl (j := 1) rfl
  have q2 := HZ0.out.cell 3 rfl (j := 2) rfl
  have q3 := HZ0.out.cell 3 rfl (j := 3) rfl
  clear xf x4
  by_cases hle : ep ≤ P
  · have HF : Hid (doR ds r (.prom ep) = ⟨10, ds, r⟩) := by show (if ep ≤ r.p then _ else _) = _; rw [if_pos (by omega)]
    clear hP hE hm
    go_upto_region 3 with fail
    go_quiet (fail)
    go_wp2
    go_ret
    rw [HF.out]
    exact ⟨rfl, (rj_fold (HZ0.out.below (by first | exact Below.refl _ _ | exact bel_dr1' _ | exact bel_dr _ _))).done1⟩
  · have HF : Hid (doR ds r (.prom ep) = promR ds r ep) := by show (if ep ≤ r.p then _ else _) = _; rw [if_neg (by omega)]
    have CP : Hid (∀ W, Hz w O (rjL yp px ds r ja jc jg ++ [box XB [.string ⟨#[112]⟩, .int .i64 ep, .int .i64 tx, .slice a n c], celT 2 (.slice a n c) n (rowC enC es) g]) W → Calls Tryz.prog 115 #[.pointer (some ⟨yp, 0, none⟩), .int .i64 ep] W fun e w' => e = .returned (.int .i64 (promR ds r ep).q) ∧ Hz w O [rj yp px (promR ds r ep).ds (promR ds r ep).r, box XB [.string ⟨#[112]⟩, .int .i64 ep, .int .i64 tx, .slice a n c], celT 2 (.slice a n c) n (rowC enC es) g] w') := fun W h => (rj_fold h).act 0 rfl (refPromise_acts ep he)
    obtain ⟨Q, hQ⟩ : ∃ Q, promR ds r ep = Q := ⟨_, rfl⟩
    rw [hQ] at CP HF
    clear hP hE hm hQ
    go_upto_region 3 with fail
    go_quiet (fail)
    go_wp2_with (go_at_call 115; refine (CP.out _ (HZ0.out.below (by first | exact Below.refl _ _ | exact bel_dr1' _ | exact bel_dr _ _))).mono ?_; rintro e w2 ⟨rfl, hz2⟩; have HZ2 : Hid (Hz w O [rj yp px Q.ds Q.r, box XB [.string ⟨#[112]⟩, .int .i64 ep, .int .i64 tx, .slice a n c], celT 2 (.slice a n c) n (rowC enC es) g] w2) := hz2; clear hz2)
    go_ret
    rw [HF.out]
    exact ⟨rfl, HZ2.out.done1⟩
set_option maxRecDepth 100000 in
set_option maxHeartbeats 8000000 in
theorem does_acc {yp px : Nat} {ds : DS} {r : Nd} {w : World} {a : Option Addr} {n c : Nat} {es : List En} {g : Option Nat} (ep tx : Int) (he : epR ep = true) (hn : es.length = n) (hR : RtL ⟨ep, es⟩) (hlm0 : r.l.es.length ≤ 300) :
    Acts Tryz.prog 72 #[.pointer (some ⟨yp, 0, none⟩), .agg #[.string ⟨#[97]⟩, .int .i64 ep, .int .i64 tx, .slice a n c]] (all [rj yp px ds r, celT 2 (.slice a n c) n (rowC enC es) g]) w (fun e _ => e = .returned (.int .i64 (doR ds r (.acc ep es)).q)) (rj yp px (doR ds r (.acc ep es)).ds (doR ds r (.acc ep es)).r) := by
  intro O hS
  obtain ⟨ja, jc, jg, hz⟩ := does_start ⟨#[97]⟩ ep tx 128 hS
  have HZ0 : Hid (Hz w O (rjL yp px ds r ja jc jg ++ [box w.heap.size [.string ⟨#[97]⟩, .int .i64 ep, .int .i64 tx, .slice a n c], celT 2 (.slice a n c) n (rowC enC es) g]) (w.alloc (.cells #[.string ⟨#[97]⟩, .int .i64 ep, .int .i64 tx, .slice a n c] 128))) := hz
  clear hz hS
  obtain ⟨P, hP⟩ : ∃ P, r.p = P := ⟨_, rfl⟩
  obtain ⟨E, hE⟩ : ∃ E, r.l.ep = E := ⟨_, rfl⟩
  obtain ⟨m, hm⟩ : ∃ m, r.l.es.length = m := ⟨_, rfl⟩
  have hst2 : ∀ (w : World) (a : Addr) (x : Option Addr) (n c : Nat) (m : Mode), (store a (.slice x n c) m).run Tryz.prog w = stored Tryz.prog w a (.slice x n c) m := fun w a x n c m => run_store (P := Tryz.prog) w a _ m rfl
  go_enter Tryz.func72, Tryz.ntmps72
  go_upto_region 1 with fail
  generalize w.alloc (.cells #[.string ⟨#[97]⟩, .int .i64 ep, .int .i64 tx, .slice a n c] 128) = W1 at *
  generalize w.heap.size = XB at *
  obtain ⟨x0, x1, x2, x3, x4, xf⟩ := rj_cells HZ0.out
  rw [hP] at x1
  rw [hE] at x2
  rw [hm] at x3
  have q0 := HZ0.out.cell 3 rfl (j := 0) rfl
  have q1 := HZ0.out.cell 3 rfl (j := 1) rfl
  have q2 := HZ0.out.cell 3 rfl (j := 2) rfl
  have q3 := HZ0.out.cell 3 rfl (j := 3) rfl
  clear xf x4
  have HNN : Hid (es.length = n) := hn
  have HRT : Hid (RtL ⟨ep, es⟩) := hR
  have hlm := hlm0
  rw [hm] at hlm
  have hn3 : n ≤ 300 := by have := hR.2.1; simp only at this; omega
  by_cases h1 : ep < P
  · have HF : Hid (doR ds r (.acc ep es) = ⟨10, ds, r⟩) := by show accR _ _ _ _ = _; unfold accR; rw [if_pos (by omega)]
    clear hP hE hm hn hR
    go_upto_region 7 with fail
    go_quiet (fail)
    go_wp2
    go_ret
    rw [HF.out]
    exact ⟨rfl, (rj_fold (HZ0.out.below (by first | exact Below.refl _ _ | exact bel_dr1' _ | exact bel_dr _ _))).done1⟩
  · have hds9 : decide (ep < P) = false := decide_eq_false (by omega)
    have HPE : Hid (r.p = P ∧ r.l.ep = E ∧ r.l.es.length = m) := ⟨hP, hE, hm⟩
    clear hP hE hm hlm0
    go_upto_region 7 with fail
    go_quiet (fail)
    have HZ2 : Hid (Hz w O (rjL yp px ds r ja jc jg ++ [box XB [.string ⟨#[97]⟩, .int .i64 ep, .int .i64 tx, .slice a n c], celT 2 (.slice a n c) n (rowC enC es) g]) (W1.drewN nq)) := HZ0.out.below (bel_dr _ _)
    clear x0 x1 x2 x3 q0 q1 q2 q3 HZ0
    generalize W1.drewN nq = W2 at *
    obtain ⟨x0, x1, x2, x3, -, -⟩ := rj_cells HZ2.out
    rw [HPE.out.1] at x1
    rw [HPE.out.2.1] at x2
    rw [HPE.out.2.2] at x3
    have q0 := HZ2.out.cell 3 rfl (j := 0) rfl
    have q1 := HZ2.out.cell 3 rfl (j := 1) rfl
    have q2 := HZ2.out.cell 3 rfl (j := 2) rfl
    have q3 := HZ2.out.cell 3 rfl (j := 3) rfl
    by_cases h2 : ep = E
    · subst h2
      have hee : (ep == ep) = true := beq_self_eq_true ep
      go_upto_region 9 with fail
      go_quiet (fail)
      have HZ3 : Hid (Hz w O (rjL yp px ds r ja jc jg ++ [box XB [.string ⟨#[97]⟩, .int .i64 ep, .int .i64 tx, .slice a n c], celT 2 (.slice a n c) n (rowC enC es) g]) (W2.drewN nq)) := HZ2.out.below (bel_dr _ _)
      clear x0 x1 x2 x3 q0 q1 q2 q3 HZ2
      generalize W2.drewN nq = W3 at *
      obtain ⟨x0, x1, x2, x3, -, -⟩ := rj_cells HZ3.out
      rw [HPE.out.1] at x1
      rw [HPE.out.2.1] at x2
      rw [HPE.out.2.2] at x3
      have q0 := HZ3.out.cell 3 rfl (j := 0) rfl
      have q1 := HZ3.out.cell 3 rfl (j := 1) rfl
      have q2 := HZ3.out.cell 3 rfl (j := 2) rfl
      have q3 := HZ3.out.cell 3 rfl (j := 3) rfl
      go_upto_region 10 with fail
      have HF : Hid (doR ds r (.acc ep es) = ⟨if begB es r.l.es = true then 0 else 11, ds, r⟩) := by
        show accR _ _ _ _ = _
        have h9 := HPE.out
        unfold accR; rw [if_neg (by omega), if_pos (by omega)]
      have HLB : Hid (begB es r.l.es = true ↔ es = r.l.es.take n) := by
        show _ ↔ _
        unfold begB
        rw [decide_eq_true_eq, hn]
        exact eq_comm
      have CE : Hid (n ≤ m → ∀ W, Below W3.heap.size W3 W → Calls Tryz.prog 56 #[.slice a n c, .slice ja n jc] W fun e w' => e = .returned (.bool (begB es r.l.es)) ∧ Below W.heap.size W w') := fun hle W hb => by
        obtain ⟨O3, k3⟩ := (HZ3.out.below hb).get 2 rfl
        obtain ⟨O4, k4⟩ := (HZ3.out.below hb).get 4 rfl
        have h9 := HPE.out.2.2
        exact refEntries_val (lie_cel k4.1 HNN.out) (lie_take wideN (Lie.of_cel wideN k3.1) n) n n c jc HNN.out (by rw [List.length_take]; omega) _ HLB.out
      have hmc : m ≤ jc := by
        obtain ⟨O3, k3⟩ := HZ3.out.get 2 rfl
        have := k3.1.cap2.1
        have h9 := HPE.out.2.2
        omega
      have hlong : ¬ n ≤ m → begB es r.l.es = false := fun hgt => by
        cases hb : begB es r.l.es with
        | false => rfl
        | true =>
          have h9 := congrArg List.length (HLB.out.1 hb)
          have h8 := HPE.out.2.2
          rw [List.length_take, hn] at h9
          omega
      clear hn hR
      have v0 := fun dd os => cell_regrown x3 dd os
      have v1 := fun dd os => cell_regrown q3 dd os
      clear x0 x1 x2 x3 q0 q1 q2 q3
      by_cases hgt : n ≤ m
      · have CE2 : Hid (∀ W, Below W3.heap.size W3 W → Calls Tryz.prog 56 #[.slice a n c, .slice ja n jc] W fun e w' => e = .returned (.bool (begB es r.l.es)) ∧ Below W.heap.size W w') := CE.out hgt
        have hg1 : decide ((m : Int) < (n : Int)) = false := decide_eq_false (by omega)
        have hnjc : n ≤ jc := by omega
        clear CE hlong
        obtain ⟨bv, hbv⟩ : ∃ bv, begB es r.l.es = bv := ⟨_, rfl⟩
        rw [hbv] at CE2 HF
        clear hbv HLB
        cases bv with
        | true =>
          rw [if_pos rfl] at HF
          refine wp_region_quiet_below (by kernel_rfl) (by kernel_rfl) ?_
          repeat (first | go_big_quiet_step (first | (go_at_call 56; exact Calls.regrown_of (CE2.out _ (below_regrown _ _ _)))) | quiet_step (first | (go_at_call 56; exact Calls.regrown_of (CE2.out _ (below_regrown _ _ _)))))
          refine wpQuiet_nil ?_
          intro _ hw'
          obtain ⟨⟨dq, osq⟩, hw''⟩ := hw'
          subst hw''
          have HZN : Hid (Hz w O (rjL yp px ds r ja jc jg ++ [box XB [.string ⟨#[97]⟩, .int .i64 ep, .int .i64 tx, .slice a n c], celT 2 (.slice a n c) n (rowC enC es) g]) (Sort.grow (redrawn W3 dq) osq)) := HZ3.out.below (below_regrown W3 dq osq)
          clear v0 v1 HZ3
          generalize Sort.grow (redrawn W3 dq) osq = wG at *
          go_wp2
          go_ret
          rw [HF.out]
          exact ⟨rfl, (rj_fold HZN.out).done1⟩
        | false =>
          rw [if_neg (by simp)] at HF
          refine wp_region_quiet_below (by kernel_rfl) (by kernel_rfl) ?_
          repeat (first | go_big_quiet_step (first | (go_at_call 56; exact Calls.regrown_of (CE2.out _ (below_regrown _ _ _)))) | quiet_step (first | (go_at_call 56; exact Calls.regrown_of (CE2.out _ (below_regrown _ _ _)))))
          refine wpQuiet_nil ?_
          intro _ hw'
          obtain ⟨⟨dq, osq⟩, hw''⟩ := hw'
          subst hw''
          have HZN : Hid (Hz w O (rjL yp px ds r ja jc jg ++ [box XB [.string ⟨#[97]⟩, .int .i64 ep, .int .i64 tx, .slice a n c], celT 2 (.slice a n c) n (rowC enC es) g]) (Sort.grow (redrawn W3 dq) osq)) := HZ3.out.below (below_regrown W3 dq osq)
          clear v0 v1 HZ3
          generalize Sort.grow (redrawn W3 dq) osq = wG at *
          go_wp2
          go_ret
          rw [HF.out]
          exact ⟨rfl, (rj_fold HZN.out).done1⟩
      · have hbv := hlong hgt
        rw [hbv, if_neg (by simp)] at HF
        have hg1 : decide ((m : Int) < (n : Int)) = true := decide_eq_true (by omega)
        clear CE hlong hbv
        refine wp_region_quiet_below (by kernel_rfl) (by kernel_rfl) ?_
        repeat (first | go_big_quiet_step (fail) | quiet_step (fail))
        refine wpQuiet_nil ?_
        intro _ hw'
        obtain ⟨⟨dq, osq⟩, hw''⟩ := hw'
        subst hw''
        have HZN : Hid (Hz w O (rjL yp px ds r ja jc jg ++ [box XB [.string ⟨#[97]⟩, .int .i64 ep, .int .i64 tx, .slice a n c], celT 2 (.slice a n c) n (rowC enC es) g]) (Sort.grow (redrawn W3 dq) osq)) := HZ3.out.below (below_regrown W3 dq osq)
        clear v0 v1 HZ3
        generalize Sort.grow (redrawn W3 dq) osq = wG at *
        go_wp2
        go_ret
        rw [HF.out]
        exact ⟨rfl, (rj_fold HZN.out).done1⟩
    · have hee : (ep == E) = false := beq_eq_false_iff_ne.2 h2
      go_upto_region 9 with fail
      go_quiet (fail)
      have HZ3 : Hid (Hz w O (rjL yp px ds r ja jc jg ++ [box XB [.string ⟨#[97]⟩, .int .i64 ep, .int .i64 tx, .slice a n c], celT 2 (.slice a n c) n (rowC enC es) g]) (W2.drewN nq)) := HZ2.out.below (bel_dr _ _)
      clear x0 x1 x2 x3 q0 q1 q2 q3 HZ2
      generalize W2.drewN nq = W3 at *
      obtain ⟨x0, x1, x2, x3, -, -⟩ := rj_cells HZ3.out
      rw [HPE.out.1] at x1
      rw [HPE.out.2.1] at x2
      rw [HPE.out.2.2] at x3
      have q0 := HZ3.out.cell 3 rfl (j := 0) rfl
      have q1 := HZ3.out.cell 3 rfl (j := 1) rfl
      have q2 := HZ3.out.cell 3 rfl (j := 2) rfl
      have q3 := HZ3.out.cell 3 rfl (j := 3) rfl
      go_upto_region 13 with fail
      by_cases h3 : P < ep
      · have hds8 : decide (P < ep) = true := decide_eq_true h3
        have hfb : doR ds r (.acc ep es) = if (promR ds r ep).q = 0 then freshR (promR ds r ep).ds (promR ds r ep).r ep es else promR ds r ep := by
          show accR _ _ _ _ = _
          have h9 := HPE.out
          unfold accR; rw [if_neg (by omega), if_neg (by omega), if_pos (by omega)]
        have CP : Hid (∀ W, Hz w O (rjL yp px ds r ja jc jg ++ [box XB [.string ⟨#[97]⟩, .int .i64 ep, .int .i64 tx, .slice a n c], celT 2 (.slice a n c) n (rowC enC es) g]) W → Calls Tryz.prog 115 #[.pointer (some ⟨yp, 0, none⟩), .int .i64 ep] W fun e w' => e = .returned (.int .i64 (promR ds r ep).q) ∧ Hz w O [rj yp px (promR ds r ep).ds (promR ds r ep).r, box XB [.string ⟨#[97]⟩, .int .i64 ep, .int .i64 tx, .slice a n c], celT 2 (.slice a n c) n (rowC enC es) g] w') := fun W h => (rj_fold h).act 0 rfl (refPromise_acts ep he)
        obtain ⟨⟨Qq, Qd, Qr⟩, hQ⟩ : ∃ Q, promR ds r ep = Q := ⟨_, rfl⟩
        rw [hQ] at CP hfb
        simp only at CP hfb
        have HF : Hid (doR ds r (.acc ep es) = if Qq = 0 then freshR Qd Qr ep es else ⟨Qq, Qd, Qr⟩) := hfb
        clear hn hR hQ hfb
        go_quiet (fail)
        have HZ4 : Hid (Hz w O (rjL yp px ds r ja jc jg ++ [box XB [.string ⟨#[97]⟩, .int .i64 ep, .int .i64 tx, .slice a n c], celT 2 (.slice a n c) n (rowC enC es) g]) (W3.drewN nq)) := HZ3.out.below (bel_dr _ _)
        clear x0 x1 x2 x3 q0 q1 q2 q3 HZ3
        generalize W3.drewN nq = W4 at *
        obtain ⟨x0, x1, x2, x3, -, -⟩ := rj_cells HZ4.out
        rw [HPE.out.1] at x1
        rw [HPE.out.2.1] at x2
        rw [HPE.out.2.2] at x3
        have q0 := HZ4.out.cell 3 rfl (j := 0) rfl
        have q1 := HZ4.out.cell 3 rfl (j := 1) rfl
        have q2 := HZ4.out.cell 3 rfl (j := 2) rfl
        have q3 := HZ4.out.cell 3 rfl (j := 3) rfl
        by_cases hp0 : Qq = 0
        · subst hp0
          rw [if_pos rfl] at HF
          go_upto_region 17 with (go_at_call 115; refine (CP.out _ HZ4.out).mono ?_; rintro e w2 ⟨rfl, hz2⟩; have HZ5 : Hid (Hz w O [rj yp px Qd Qr, box XB [.string ⟨#[97]⟩, .int .i64 ep, .int .i64 tx, .slice a n c], celT 2 (.slice a n c) n (rowC enC es) g] w2) := hz2; clear hz2)
          clear x0 x1 x2 x3 q0 q1 q2 q3 HZ4 CP
          obtain ⟨za, zc, zg, hzw⟩ := rj_open HZ5.out
          have HZW : Hid (Hz w O (rjL yp px Qd Qr za zc zg ++ [box XB [.string ⟨#[97]⟩, .int .i64 ep, .int .i64 tx, .slice a n c], celT 2 (.slice a n c) n (rowC enC es) g]) w2) := hzw
          clear hzw HZ5
          have q1 := HZW.out.cell 3 rfl (j := 1) rfl
          have q3 := HZW.out.cell 3 rfl (j := 3) rfl
          obtain ⟨⟨qq, ds2⟩, hsq⟩ : ∃ x, stoR Qd lgN (encL ⟨ep, es⟩) = x := ⟨_, rfl⟩
          have hfr : freshR Qd Qr ep es = ⟨qq, ds2, if qq = 0 then ⟨Qr.p, ⟨ep, es⟩, Qr.gone⟩ else Qr⟩ := by unfold freshR; rw [hsq]
          rw [hfr] at HF
          have CST : Hid (∀ W fb ya yc yg, Hz w O ([box fb [.int .i64 ep, .slice a n c]] ++ (rjL yp px Qd Qr ya yc yg ++ [box XB [.string ⟨#[97]⟩, .int .i64 ep, .int .i64 tx, .slice a n c], celT 2 (.slice a n c) n (rowC enC es) g])) W → Calls Tryz.prog 62 #[.pointer (some ⟨px, 0, none⟩), .string lgN, .agg #[.int .i64 ep, .slice a n c]] W fun e w' => e = .returned (.int .i64 qq) ∧ Hz w O ([box fb [.int .i64 ep, .slice a n c]] ++ (rjL yp px ds2 Qr ya yc yg ++ [box XB [.string ⟨#[97]⟩, .int .i64 ep, .int .i64 tx, .slice a n c], celT 2 (.slice a n c) n (rowC enC es) g])) w') := fun W fb ya yc yg h => by
            obtain ⟨O4, k4⟩ := h.get 5 rfl
            exact h.act 2 rfl (refStore_acts (lie_cel k4.1 HNN.out) ep n c HNN.out HRT.out lgN lg_ok lg_small qq hsq)
          clear hsq hfr
          go_upto_region 18 with fail
          have HB : Hid (Hz w O ([box w2.heap.size [.int .i64 ep, .slice a n c]] ++ (rjL yp px Qd Qr za zc zg ++ [box XB [.string ⟨#[97]⟩, .int .i64 ep, .int .i64 tx, .slice a n c], celT 2 (.slice a n c) n (rowC enC es) g])) (w2.alloc (.cells #[.int .i64 ep, .slice a n c] 34))) := HZW.out.box [.int .i64 ep, .slice a n c] 34
          clear HZW q1 q3
          generalize w2.alloc (.cells #[.int .i64 ep, .slice a n c] 34) = W5 at *
          generalize w2.heap.size = FB at *
          have y0 := HB.out.cell 1 rfl (j := 0) rfl
          have z0 := HB.out.cell 0 rfl (j := 0) rfl
          have z1 := HB.out.cell 0 rfl (j := 1) rfl
          go_region_held3 (fun w' => w'.cell? ⟨yp, 0, none⟩ = some (.pointer (some ⟨px, 0, none⟩)) ∧ w'.cell? ⟨FB, 0, none⟩ = some (.int .i64 ep) ∧ w'.cell? ⟨FB, 1, none⟩ = some (.slice a n c))
            (first | (refine ⟨HZ6.out.cell 1 rfl (j := 0) rfl, HZ6.out.cell 0 rfl (j := 0) rfl, HZ6.out.cell 0 rfl (j := 1) rfl⟩; done) | go_keep)
            (first | (go_at_call 62; refine (CST.out _ FB za zc zg (HB.out.below (by first | exact bel_dr1' _ | exact Below.refl _ _ | exact bel_dr _ _))).mono ?_; rintro x w6 ⟨rfl, hz6⟩; have HZ6 : Hid (Hz w O ([box FB [.int .i64 ep, .slice a n c]] ++ (rjL yp px ds2 Qr za zc zg ++ [box XB [.string ⟨#[97]⟩, .int .i64 ep, .int .i64 tx, .slice a n c], celT 2 (.slice a n c) n (rowC enC es) g])) w6) := hz6; clear hz6))
          all_goals
            by_cases h0 : qq = 0
            · subst h0
              rw [if_pos rfl] at HF
              have r0 := HZ6.out.cell 0 rfl (j := 0) rfl
              have r1 := HZ6.out.cell 0 rfl (j := 1) rfl
              have u2 := HZ6.out.cell 1 rfl (j := 2) rfl
              have u3 := HZ6.out.cell 1 rfl (j := 3) rfl
              have uf2 := HZ6.out.fr 1 rfl 2
              have uf3 := HZ6.out.fr 1 rfl 3
              go_wp2
              go_ret
              rw [HF.out]
              have h7 := (((HZ6.out.setBox 1 rfl 2 (.int .i64 ep) (by simp [rjV])).setBox 1 rfl 3 (.slice a n c) (by simp [rjV])).erase 3).erase 0
              have hn9 := HNN.out
              subst hn9
              exact ⟨rfl, (rj_fold (M := [box XB [.string ⟨#[97]⟩, .int .i64 ep, .int .i64 tx, .slice a es.length c]]) (r := ⟨Qr.p, ⟨ep, es⟩, Qr.gone⟩) (a := a) (c := c) (g := g) (perm3 h7)).done1⟩
            · rw [if_neg h0] at HF
              have hnb : (qq == 0) = false := beq_eq_false_iff_ne.2 h0
              go_wp2
              go_ret
              rw [HF.out]
              exact ⟨rfl, (rj_fold (HZ6.out.erase 0)).done1⟩
        · rw [if_neg hp0] at HF
          have hnb : (Qq == 0) = false := beq_eq_false_iff_ne.2 hp0
          go_wp2_with (go_at_call 115; refine (CP.out _ HZ4.out).mono ?_; rintro e w2 ⟨rfl, hz2⟩; have HZ5 : Hid (Hz w O [rj yp px Qd Qr, box XB [.string ⟨#[97]⟩, .int .i64 ep, .int .i64 tx, .slice a n c], celT 2 (.slice a n c) n (rowC enC es) g] w2) := hz2; clear hz2)
          go_ret
          rw [HF.out]
          exact ⟨rfl, HZ5.out.done1⟩
      · have hds8 : decide (P < ep) = false := decide_eq_false h3
        have HF : Hid (doR ds r (.acc ep es) = freshR ds r ep es) := by
          show accR _ _ _ _ = _
          have h9 := HPE.out
          unfold accR; rw [if_neg (by omega), if_neg (by omega), if_neg (by omega)]
        clear hn hR
        go_quiet (fail)
        have HZ4 : Hid (Hz w O (rjL yp px ds r ja jc jg ++ [box XB [.string ⟨#[97]⟩, .int .i64 ep, .int .i64 tx, .slice a n c], celT 2 (.slice a n c) n (rowC enC es) g]) (W3.drewN nq)) := HZ3.out.below (bel_dr _ _)
        clear x0 x1 x2 x3 q0 q1 q2 q3 HZ3
        generalize W3.drewN nq = W4 at *
        obtain ⟨x0, x1, x2, x3, -, -⟩ := rj_cells HZ4.out
        rw [HPE.out.1] at x1
        rw [HPE.out.2.1] at x2
        rw [HPE.out.2.2] at x3
        have q0 := HZ4.out.cell 3 rfl (j := 0) rfl
        have q1 := HZ4.out.cell 3 rfl (j := 1) rfl
        have q2 := HZ4.out.cell 3 rfl (j := 2) rfl
        have q3 := HZ4.out.cell 3 rfl (j := 3) rfl
        go_upto_region 17 with fail
        have HZW : Hid (Hz w O (rjL yp px ds r ja jc jg ++ [box XB [.string ⟨#[97]⟩, .int .i64 ep, .int .i64 tx, .slice a n c], celT 2 (.slice a n c) n (rowC enC es) g]) W4) := HZ4.out
        clear x0 x1 x2 x3 q0 q2 HZ4
        obtain ⟨⟨qq, ds2⟩, hsq⟩ : ∃ x, stoR ds lgN (encL ⟨ep, es⟩) = x := ⟨_, rfl⟩
        have hfr : freshR ds r ep es = ⟨qq, ds2, if qq = 0 then ⟨r.p, ⟨ep, es⟩, r.gone⟩ else r⟩ := by unfold freshR; rw [hsq]
        rw [hfr] at HF
        have CST : Hid (∀ W fb ya yc yg, Hz w O ([box fb [.int .i64 ep, .slice a n c]] ++ (rjL yp px ds r ya yc yg ++ [box XB [.string ⟨#[97]⟩, .int .i64 ep, .int .i64 tx, .slice a n c], celT 2 (.slice a n c) n (rowC enC es) g])) W → Calls Tryz.prog 62 #[.pointer (some ⟨px, 0, none⟩), .string lgN, .agg #[.int .i64 ep, .slice a n c]] W fun e w' => e = .returned (.int .i64 qq) ∧ Hz w O ([box fb [.int .i64 ep, .slice a n c]] ++ (rjL yp px ds2 r ya yc yg ++ [box XB [.string ⟨#[97]⟩, .int .i64 ep, .int .i64 tx, .slice a n c], celT 2 (.slice a n c) n (rowC enC es) g])) w') := fun W fb ya yc yg h => by
          obtain ⟨O4, k4⟩ := h.get 5 rfl
          exact h.act 2 rfl (refStore_acts (lie_cel k4.1 HNN.out) ep n c HNN.out HRT.out lgN lg_ok lg_small qq hsq)
        clear hsq hfr
        go_upto_region 18 with fail
        have HB : Hid (Hz w O ([box W4.heap.size [.int .i64 ep, .slice a n c]] ++ (rjL yp px ds r ja jc jg ++ [box XB [.string ⟨#[97]⟩, .int .i64 ep, .int .i64 tx, .slice a n c], celT 2 (.slice a n c) n (rowC enC es) g])) (W4.alloc (.cells #[.int .i64 ep, .slice a n c] 34))) := HZW.out.box [.int .i64 ep, .slice a n c] 34
        clear HZW q1 q3
        generalize W4.alloc (.cells #[.int .i64 ep, .slice a n c] 34) = W5 at *
        generalize W4.heap.size = FB at *
        have y0 := HB.out.cell 1 rfl (j := 0) rfl
        have z0 := HB.out.cell 0 rfl (j := 0) rfl
        have z1 := HB.out.cell 0 rfl (j := 1) rfl
        go_region_held3 (fun w' => w'.cell? ⟨yp, 0, none⟩ = some (.pointer (some ⟨px, 0, none⟩)) ∧ w'.cell? ⟨FB, 0, none⟩ = some (.int .i64 ep) ∧ w'.cell? ⟨FB, 1, none⟩ = some (.slice a n c))
          (first | (refine ⟨HZ6.out.cell 1 rfl (j := 0) rfl, HZ6.out.cell 0 rfl (j := 0) rfl, HZ6.out.cell 0 rfl (j := 1) rfl⟩; done) | go_keep)
          (first | (go_at_call 62; refine (CST.out _ FB ja jc jg (HB.out.below (by first | exact bel_dr1' _ | exact Below.refl _ _ | exact bel_dr _ _))).mono ?_; rintro x w6 ⟨rfl, hz6⟩; have HZ6 : Hid (Hz w O ([box FB [.int .i64 ep, .slice a n c]] ++ (rjL yp px ds2 r ja jc jg ++ [box XB [.string ⟨#[97]⟩, .int .i64 ep, .int .i64 tx, .slice a n c], celT 2 (.slice a n c) n (rowC enC es) g])) w6) := hz6; clear hz6))
        all_goals
          by_cases h0 : qq = 0
          · subst h0
            rw [if_pos rfl] at HF
            have r0 := HZ6.out.cell 0 rfl (j := 0) rfl
            have r1 := HZ6.out.cell 0 rfl (j := 1) rfl
            have u2 := HZ6.out.cell 1 rfl (j := 2) rfl
            have u3 := HZ6.out.cell 1 rfl (j := 3) rfl
            have uf2 := HZ6.out.fr 1 rfl 2
            have uf3 := HZ6.out.fr 1 rfl 3
            go_wp2
            go_ret
            rw [HF.out]
            have h7 := (((HZ6.out.setBox 1 rfl 2 (.int .i64 ep) (by simp [rjV])).setBox 1 rfl 3 (.slice a n c) (by simp [rjV])).erase 3).erase 0
            have hn9 := HNN.out
            subst hn9
            exact ⟨rfl, (rj_fold (M := [box XB [.string ⟨#[97]⟩, .int .i64 ep, .int .i64 tx, .slice a es.length c]]) (r := ⟨r.p, ⟨ep, es⟩, r.gone⟩) (a := a) (c := c) (g := g) (perm3 h7)).done1⟩
          · rw [if_neg h0] at HF
            have hnb : (qq == 0) = false := beq_eq_false_iff_ne.2 h0
            go_wp2
            go_ret
            rw [HF.out]
            exact ⟨rfl, (rj_fold (HZ6.out.erase 0)).done1⟩
set_option maxRecDepth 100000 in
set_option maxHeartbeats 8000000 in
theorem does_add {yp px : Nat} {ds : DS} {r : Nd} {w : World} {a : Option Addr} {n c : Nat} {es : List En} {g : Option Nat} (ep tx : Int) (d : ByteArray) (hx : addR1 ⟨tx, d⟩ = true) (hn : es.length = n) (hes : es = [⟨tx, d⟩]) (hlm0 : r.l.es.length ≤ 300) :
    Acts Tryz.prog 72 #[.pointer (some ⟨yp, 0, none⟩), .agg #[.string ⟨#[119]⟩, .int .i64 ep, .int .i64 tx, .slice a n c]] (all [rj yp px ds r, celT 2 (.slice a n c) n (rowC enC es) g]) w (fun e _ => e = .returned (.int .i64 (doR ds r (.add ep ⟨tx, d⟩)).q)) (rj yp px (doR ds r (.add ep ⟨tx, d⟩)).ds (doR ds r (.add ep ⟨tx, d⟩)).r) := by
  intro O hS
  obtain ⟨ja, jc, jg, hz⟩ := does_start ⟨#[119]⟩ ep tx 128 hS
  have HZ0 : Hid (Hz w O (rjL yp px ds r ja jc jg ++ [box w.heap.size [.string ⟨#[119]⟩, .int .i64 ep, .int .i64 tx, .slice a n c], celT 2 (.slice a n c) n (rowC enC es) g]) (w.alloc (.cells #[.string ⟨#[119]⟩, .int .i64 ep, .int .i64 tx, .slice a n c] 128))) := hz
  clear hz hS
  obtain ⟨P, hP⟩ : ∃ P, r.p = P := ⟨_, rfl⟩
  obtain ⟨E, hE⟩ : ∃ E, r.l.ep = E := ⟨_, rfl⟩
  obtain ⟨m, hm⟩ : ∃ m, r.l.es.length = m := ⟨_, rfl⟩
  have hst2 : ∀ (w : World) (a : Addr) (x : Option Addr) (n c : Nat) (m : Mode), (store a (.slice x n c) m).run Tryz.prog w = stored Tryz.prog w a (.slice x n c) m := fun w a x n c m => run_store (P := Tryz.prog) w a _ m rfl
  go_enter Tryz.func72, Tryz.ntmps72
  go_upto_region 1 with fail
  generalize w.alloc (.cells #[.string ⟨#[119]⟩, .int .i64 ep, .int .i64 tx, .slice a n c] 128) = W1 at *
  generalize w.heap.size = XB at *
  obtain ⟨x0, x1, x2, x3, x4, xf⟩ := rj_cells HZ0.out
  rw [hP] at x1
  rw [hE] at x2
  rw [hm] at x3
  have q0 := HZ0.out.cell 3 rfl (j := 0) rfl
  have q1 := HZ0.out.cell 3 rfl (j := 1) rfl
  have q2 := HZ0.out.cell 3 rfl (j := 2) rfl
  have q3 := HZ0.out.cell 3 rfl (j := 3) rfl
  clear xf x4
  subst hes
  obtain rfl : n = 1 := by simpa using hn.symm
  obtain ⟨k1, k2, k3⟩ := (addR1_iff _).1 hx
  simp only at k1 k2 k3
  have hlm := hlm0
  rw [hm] at hlm
  have HPE : Hid (r.p = P ∧ r.l.ep = E ∧ r.l.es.length = m) := ⟨hP, hE, hm⟩
  obtain ⟨O9, hRow, -⟩ := HZ0.out.get 4 rfl
  obtain ⟨eb, heb, _, hec⟩ := hRow.elem wideN (i := 0) (by simp) rfl
  subst heb
  have e0 : W1.cell? ⟨eb, 0, none⟩ = some (.int .i64 tx) := by have h9 := hec 0 _ rfl; simpa using h9
  have e1 : W1.cell? ⟨eb, 1, none⟩ = some (.string d) := by have h9 := hec 1 _ rfl; simpa using h9
  have HEC : Hid (∀ W, Below W1.heap.size W1 W → W.cell? ⟨eb, 0, none⟩ = some (.int .i64 tx) ∧ W.cell? ⟨eb, 1, none⟩ = some (.string d)) := fun W hb => ⟨bel_cell hb e0, bel_cell hb e1⟩
  clear hP hE hm hlm0 hn hRow hec e0 e1
  by_cases h1 : ep = P
  case neg =>
    have HF : Hid (doR ds r (.add ep ⟨tx, d⟩) = ⟨10, ds, r⟩) := by
      show addRR _ _ _ _ = _
      have h9 := HPE.out
      unfold addRR; rw [if_pos (.inl (by omega))]
    have hne : (ep != P) = true := by simp [h1]
    have hne2 : (ep == P) = false := beq_eq_false_iff_ne.2 h1
    go_upto_region 23 with fail
    go_quiet (fail)
    go_wp2
    go_ret
    rw [HF.out]
    exact ⟨rfl, (rj_fold (HZ0.out.below (by first | exact Below.refl _ _ | exact bel_dr1' _ | exact bel_dr _ _))).done1⟩
  case pos =>
  subst h1
  have hne : (ep != ep) = false := by simp
  by_cases h2 : ep = E
  case neg =>
    have HF : Hid (doR ds r (.add ep ⟨tx, d⟩) = ⟨10, ds, r⟩) := by
      show addRR _ _ _ _ = _
      have h9 := HPE.out
      unfold addRR; rw [if_pos (.inr (by omega))]
    have hne3 : (ep != E) = true := by simp [h2]
    have hne2 : (ep == E) = false := beq_eq_false_iff_ne.2 h2
    go_upto_region 23 with fail
    go_quiet (fail)
    go_wp2
    go_ret
    rw [HF.out]
    exact ⟨rfl, (rj_fold (HZ0.out.below (by first | exact Below.refl _ _ | exact bel_dr1' _ | exact bel_dr _ _))).done1⟩
  case pos =>
  subst h2
  go_upto_region 23 with fail
  go_quiet (fail)
  have HZ2 : Hid (Hz w O (rjL yp px ds r ja jc jg ++ [box XB [.string ⟨#[119]⟩, .int .i64 ep, .int .i64 tx, .slice (some ⟨eb, 0, none⟩) 1 c], celT 2 (.slice (some ⟨eb, 0, none⟩) 1 c) 1 (rowC enC [⟨tx, d⟩]) g]) (W1.drewN nq)) := HZ0.out.below (bel_dr _ _)
  clear x0 x1 x2 x3 q0 q1 q2 q3 HZ0
  generalize W1.drewN nq = W2 at *
  obtain ⟨x0, x1, x2, x3, -, -⟩ := rj_cells HZ2.out
  rw [HPE.out.1] at x1
  rw [HPE.out.2.1] at x2
  rw [HPE.out.2.2] at x3
  have q0 := HZ2.out.cell 3 rfl (j := 0) rfl
  have q1 := HZ2.out.cell 3 rfl (j := 1) rfl
  have q2 := HZ2.out.cell 3 rfl (j := 2) rfl
  have q3 := HZ2.out.cell 3 rfl (j := 3) rfl
  have HE2 : Hid (∀ W, Below W2.heap.size W2 W → W.cell? ⟨eb, 0, none⟩ = some (.int .i64 tx) ∧ W.cell? ⟨eb, 1, none⟩ = some (.string d)) := fun W hb => by
    obtain ⟨O9, hRow, -⟩ := (HZ2.out.below hb).get 4 rfl
    obtain ⟨eb2, heb, _, hec⟩ := hRow.elem wideN (i := 0) (by simp) rfl
    cases heb
    exact ⟨by have h9 := hec 0 _ rfl; simpa using h9, by have h9 := hec 1 _ rfl; simpa using h9⟩
  clear HEC
  have hnn : ¬ (ep ≠ r.p ∨ ep ≠ r.l.ep) := fun e => by have h9 := HPE.out; omega
  by_cases h3 : (m : Int) + 1 < tx
  · have HF : Hid (doR ds r (.add ep ⟨tx, d⟩) = ⟨11, ds, r⟩) := by
      show addRR _ _ _ _ = _
      have h9 := HPE.out
      unfold addRR; rw [if_neg hnn, if_pos (by rw [h9.2.2]; exact h3)]
    clear hnn
    go_wp2
    go_ret
    rw [HF.out]
    exact ⟨rfl, (rj_fold HZ2.out).done1⟩
  · by_cases h4 : tx ≤ (m : Int)
    · obtain ⟨k, rfl⟩ : ∃ k : Nat, tx = (k : Int) + 1 := ⟨(tx - 1).toNat, by omega⟩
      have hk : k < r.l.es.length := by have h9 := HPE.out.2.2; omega
      obtain ⟨O3, hC, _⟩ := HZ2.out.get 2 rfl
      obtain ⟨b, hb, _, hcel⟩ := hC.elem wideN hk rfl
      subst hb
      have hget : r.l.es[((k : Int) + 1).toNat - 1]? = some r.l.es[k] := by
        rw [show ((k : Int) + 1).toNat - 1 = k by omega]
        exact List.getElem?_eq_getElem hk
      have hq : doR ds r (.add ep ⟨(k : Int) + 1, d⟩) = ⟨if r.l.es[k] = ⟨(k : Int) + 1, d⟩ then 0 else 11, ds, r⟩ := by
        show addRR _ _ _ _ = _
        have h9 := HPE.out
        unfold addRR; rw [if_neg hnn, if_neg (by rw [h9.2.2]; exact h3), if_pos (by rw [h9.2.2]; exact h4)]
        simp only [hget, Option.some.injEq]
      obtain ⟨y, hy⟩ : ∃ y, r.l.es[k] = y := ⟨_, rfl⟩
      rw [hy] at hq hcel
      obtain ⟨ty, dy⟩ := y
      have z0 : W2.cell? ⟨b, k * 2, none⟩ = some (.int .i64 ty) := hcel 0 _ rfl
      have z1 : W2.cell? ⟨b, k * 2 + 1, none⟩ = some (.string dy) := hcel 1 _ rfl
      have hkn : (k : Int) < (m : Int) := by omega
      obtain ⟨e0, e1⟩ := HE2.out W2 (Below.refl _ _)
      clear hC hcel hget hy hk hnn HE2
      by_cases e2 : ty = (k : Int) + 1
      · by_cases e3 : dy = d
        · have HF : Hid (doR ds r (.add ep ⟨(k : Int) + 1, d⟩) = ⟨0, ds, r⟩) := by
            show _ = _
            rw [hq, if_pos (by rw [e2, e3])]
          clear hq
          subst e3 e2
          go_upto_region 28 with fail
          go_quiet (fail)
          go_wp2
          go_ret
          rw [HF.out]
          exact ⟨rfl, (rj_fold (HZ2.out.below (by first | exact Below.refl _ _ | exact bel_dr1' _ | exact bel_dr _ _))).done1⟩
        · have HF : Hid (doR ds r (.add ep ⟨(k : Int) + 1, d⟩) = ⟨11, ds, r⟩) := by
            show _ = _
            rw [hq, if_neg (fun e => e3 (by injection e))]
          have hbe := bytes_ne e3
          clear hq e3
          subst e2
          go_upto_region 28 with fail
          go_quiet (fail)
          go_wp2
          go_ret
          rw [HF.out]
          exact ⟨rfl, (rj_fold (HZ2.out.below (by first | exact Below.refl _ _ | exact bel_dr1' _ | exact bel_dr _ _))).done1⟩
      · have HF : Hid (doR ds r (.add ep ⟨(k : Int) + 1, d⟩) = ⟨11, ds, r⟩) := by
          show _ = _
          rw [hq, if_neg (fun e => e2 (by injection e))]
        clear hq
        go_upto_region 28 with fail
        go_quiet (fail)
        go_wp2
        go_ret
        rw [HF.out]
        exact ⟨rfl, (rj_fold (HZ2.out.below (by first | exact Below.refl _ _ | exact bel_dr1' _ | exact bel_dr _ _))).done1⟩
    · obtain ⟨⟨qq, ds2⟩, hq⟩ : ∃ x, addR ds lgN (encE ⟨tx, d⟩) = x := ⟨_, rfl⟩
      have HF : Hid (doR ds r (.add ep ⟨tx, d⟩) = ⟨qq, ds2, if qq = 0 then ⟨r.p, ⟨r.l.ep, r.l.es ++ [⟨tx, d⟩]⟩, r.gone⟩ else r⟩) := by
        show addRR _ _ _ _ = _
        have h9 := HPE.out
        unfold addRR; rw [if_neg hnn, if_neg (by rw [h9.2.2]; exact h3), if_neg (by rw [h9.2.2]; exact h4), hq]
      have CA : Hid (∀ W, Hz w O (rjL yp px ds r ja jc jg ++ [box XB [.string ⟨#[119]⟩, .int .i64 ep, .int .i64 tx, .slice (some ⟨eb, 0, none⟩) 1 c], celT 2 (.slice (some ⟨eb, 0, none⟩) 1 c) 1 (rowC enC [⟨tx, d⟩]) g]) W → Calls Tryz.prog 116 #[.pointer (some ⟨px, 0, none⟩), .string lgN, .agg #[.int .i64 tx, .string d]] W fun e w' => e = .returned (.int .i64 qq) ∧ Hz w O (rjL yp px ds2 r ja jc jg ++ [box XB [.string ⟨#[119]⟩, .int .i64 ep, .int .i64 tx, .slice (some ⟨eb, 0, none⟩) 1 c], celT 2 (.slice (some ⟨eb, 0, none⟩) 1 c) 1 (rowC enC [⟨tx, d⟩]) g]) w') := fun W h => h.act 1 rfl (refAdd_acts ⟨tx, d⟩ k1 k2 k3 lgN lg_ok lg_small qq hq)
      obtain ⟨e0, e1⟩ := HE2.out W2 (Below.refl _ _)
      clear hnn hq
      go_upto_region 31 with fail
      go_region_held3 (fun w' => w'.cell? ⟨yp, 0, none⟩ = some (.pointer (some ⟨px, 0, none⟩)) ∧ w'.cell? ⟨XB, 3, none⟩ = some (.slice (some ⟨eb, 0, none⟩) 1 c) ∧ w'.cell? ⟨eb, 0, none⟩ = some (.int .i64 tx) ∧ w'.cell? ⟨eb, 1, none⟩ = some (.string d))
        (first | (refine ⟨HZ6.out.cell 0 rfl (j := 0) rfl, HZ6.out.cell 3 rfl (j := 3) rfl, ?_⟩; exact hz_row HZ6.out 4 rfl) | go_keep)
        (first | (go_at_call 116; refine (CA.out _ (HZ2.out.below (by first | exact bel_dr1' _ | exact Below.refl _ _ | exact bel_dr _ _))).mono ?_; rintro x w6 ⟨rfl, hz6⟩; have HZ6 : Hid (Hz w O (rjL yp px ds2 r ja jc jg ++ [box XB [.string ⟨#[119]⟩, .int .i64 ep, .int .i64 tx, .slice (some ⟨eb, 0, none⟩) 1 c], celT 2 (.slice (some ⟨eb, 0, none⟩) 1 c) 1 (rowC enC [⟨tx, d⟩]) g]) w6) := hz6; clear hz6))
      all_goals
        by_cases h0 : qq = 0
        · subst h0
          rw [if_pos rfl] at HF
          obtain ⟨ti, hi1, hi2, hi3, hi4⟩ := info_e
          have x3 := HZ6.out.cell 0 rfl (j := 3) rfl
          rw [HPE.out.2.2] at x3
          have SR : Hid (Src Tryz.prog 2 22 (.slice ja m jc) m (rowC enC r.l.es) w6) := by
            obtain ⟨O3, k3⟩ := HZ6.out.get 2 rfl
            exact src_lie Tryz.underlying22 wideN (Lie.of_cel wideN k3.1) m jc HPE.out.2.2
          go_upto_region 35 with (at_builtin; refine wpList_append_cel _ rfl _ _ 22 22 rfl 24 ti _ 2 24 Tryz.underlying22 hi1 hi2 hi3 hi4 rfl (O := fun _ => False) (.slice none 0 0) 0 [] none rfl (.nil rfl rfl rfl) _ m (rowC enC r.l.es) rfl SR.out (by unfold maxLen; omega) (by omega) ?_; intro a7 c7 w7 g7 hC7 hS7 hg7; simp only [Nat.zero_add, List.nil_append] at hC7 ⊢; have HZ7 : Hid (Hz w O (celT 2 (.slice a7 m c7) m (rowC enC r.l.es) g7 :: (rjL yp px ds2 r ja jc jg ++ [box XB [.string ⟨#[119]⟩, .int .i64 ep, .int .i64 tx, .slice (some ⟨eb, 0, none⟩) 1 c], celT 2 (.slice (some ⟨eb, 0, none⟩) 1 c) 1 (rowC enC [⟨tx, d⟩]) g])) w7) := celT_new HZ6.out hS7 hC7; clear hC7 hS7 hg7)
          clear x3 SR
          have r3 := HZ7.out.cell 4 rfl (j := 3) rfl
          obtain ⟨e2, e3⟩ := hz_row HZ7.out 5 rfl
          have H9 : Hid (Hz w O (celT 2 (.slice a7 m c7) m (rowC enC r.l.es) g7 :: (rjL yp px ds2 r ja jc jg ++ [box XB [.string ⟨#[119]⟩, .int .i64 ep, .int .i64 tx, .slice (some ⟨eb, 0, none⟩) 1 c], celT 2 (.slice (some ⟨eb, 0, none⟩) 1 c) 1 (rowC enC [⟨tx, d⟩]) g])) (w7.alloc (.cells #[.int .i64 tx, .string d] 24))) := HZ7.out.below (bel_al _ _)
          have SW : Hid (Src Tryz.prog 2 22 (.slice (some ⟨w7.heap.size, 0, none⟩) 1 1) 1 [.int .i64 tx, .string d] (w7.alloc (.cells #[.int .i64 tx, .string d] 24))) := src_entry w7 tx d
          obtain ⟨O3, p1, p2, p3⟩ := H9.out.out 0 rfl
          have hC0 := p1.1
          have HC : Hid (Cel O3 (w7.alloc (.cells #[.int .i64 tx, .string d] 24)) 2 (.slice a7 m c7) m (rowC enC r.l.es) g7) := hC0
          have K3 : Hid (∀ a8 c8 w8 g8, Cel (Grow O3 (w7.alloc (.cells #[.int .i64 tx, .string d] 24)) w8) w8 2 (.slice a8 (m + 1) c8) (m + 1) (rowC enC r.l.es ++ [.int .i64 tx, .string d]) g8 → Stay (fun q => g7 = some q) (w7.alloc (.cells #[.int .i64 tx, .string d] 24)) w8 → Hz w O (celT 2 (.slice a8 (m + 1) c8) (m + 1) (rowC enC r.l.es ++ [.int .i64 tx, .string d]) g8 :: (rjL yp px ds2 r ja jc jg ++ [box XB [.string ⟨#[119]⟩, .int .i64 ep, .int .i64 tx, .slice (some ⟨eb, 0, none⟩) 1 c], celT 2 (.slice (some ⟨eb, 0, none⟩) 1 c) 1 (rowC enC [⟨tx, d⟩]) g])) w8) := fun a8 c8 w8 g8 hC8 hS8 =>
            p3 (celT 2 (Value.slice a8 (m + 1) c8) (m + 1) (rowC enC r.l.es ++ [Value.int IntKind.i64 tx, Value.string d]) g8) w8 ⟨hC8, grow_lt p2 hS8.size⟩ (hS8.mono (fun q hq => by have h9 := HC.out; rw [hq] at h9; exact h9.lt.2))
          clear p1 p2 p3 hC0
          go_wp2_with (at_builtin; refine wpList_append_cel _ rfl _ _ 22 22 rfl 24 ti _ 2 24 Tryz.underlying22 hi1 hi2 hi3 hi4 rfl (O := O3) (.slice a7 m c7) m _ g7 rfl HC.out _ 1 [.int .i64 tx, .string d] rfl SW.out (by unfold maxLen; omega) (by omega) ?_; intro a8 c8 w8 g8 hC8 hS8 hg8; have H8 : Hid (Hz w O (celT 2 (.slice a8 (m + 1) c8) (m + 1) (rowC enC r.l.es ++ [.int .i64 tx, .string d]) g8 :: (rjL yp px ds2 r ja jc jg ++ [box XB [.string ⟨#[119]⟩, .int .i64 ep, .int .i64 tx, .slice (some ⟨eb, 0, none⟩) 1 c], celT 2 (.slice (some ⟨eb, 0, none⟩) 1 c) 1 (rowC enC [⟨tx, d⟩]) g])) w8) := K3.out a8 c8 w8 g8 hC8 hS8; clear hC8 hS8 hg8; have v3 := H8.out.cell 1 rfl (j := 3) rfl; have vf := H8.out.fr 1 rfl 3)
          go_ret
          rw [HF.out]
          exact ⟨rfl, (rj_fold (rj_snoc (x := ⟨tx, d⟩) HPE.out.2.2 (H8.out.setBox 1 rfl 3 (.slice a8 (m + 1) c8) (by simp [rjV])).swap.swap2)).done1⟩
        · rw [if_neg h0] at HF
          have hnb : (qq == 0) = false := beq_eq_false_iff_ne.2 h0
          go_wp2
          go_ret
          rw [HF.out]
          exact ⟨rfl, (rj_fold HZ6.out).done1⟩
end Go.Proofs.YtfmhmokbbkliaaaGreat.Jrn

/- The contract of tabulariumref15.Journal.Handle. -/
namespace Go.Proofs.YtfmhmokbbkliaaaGreat.Jrn
open Go.RowKit Go.Proofs.YtfmhmokbbkliaaaGreat Go.Proofs.YtfmhmokbbkliaaaGreat.Wir Go.Proofs.YtfmhmokbbkliaaaGreat.Lgg Go.Proofs.YtfmhmokbbkliaaaGreat.Sep
set_option linter.unusedVariables false

theorem does_any {yp px : Nat} {ds : DS} {r : Nd} {w : World} {a : Option Addr} {n c : Nat} {es : List En} {g : Option Nat} (k : ByteArray) (ep tx : Int) (q : Rq) (hq : RqOk q) (hk : RqT q k ep tx es) (hn : es.length = n) (hlm : r.l.es.length ≤ 300) :
    Acts Tryz.prog 72 #[.pointer (some ⟨yp, 0, none⟩), .agg #[.string k, .int .i64 ep, .int .i64 tx, .slice a n c]] (all [rj yp px ds r, celT 2 (.slice a n c) n (rowC enC es) g]) w (fun e _ => e = .returned (.int .i64 (doR ds r q).q)) (rj yp px (doR ds r q).ds (doR ds r q).r) := by
  cases q with
  | prom e =>
    obtain ⟨rfl, rfl, rfl⟩ := hk
    exact does_prom ep tx hq
  | acc e l =>
    obtain ⟨rfl, rfl, rfl⟩ := hk
    exact does_acc ep tx hq.1 hn hq.2 hlm
  | add e x =>
    obtain ⟨rfl, rfl, rfl, hes⟩ := hk
    exact does_add ep x.tx x.d hq.2 hn hes hlm

theorem put_celA {w w1 w2 : World} {O : Nat → Prop} {L : List Th} {k n : Nat} {sl : Value} {cs : List Value} {g : Option Nat} (h : Hz w O L w1) (hb : Below w1.heap.size w1 w2) (hC : Cel (fun q => w1.heap.size ≤ q) w2 k sl n cs g) : Hz w O (celT k sl n cs g :: L) w2 := by
  refine h.put hb ⟨?_, fun q hq => hq.2⟩
  cases hC with
  | nil h1 h2 h3 => exact .nil h1 h2 h3
  | row g cap h1 h2 h3 h4 h5 h6 h7 h8 => exact .row g cap h1 h2 ⟨h3, h4⟩ h4 h5 h6 h7 h8
/-- What the reference answers. -/
def refHandQ (ds : DS) (r : Nd) (s : ByteArray) : Ans :=
  if r.gone = true then ⟨ansT 12 [], ds, r⟩
  else match readQ s with
  | none => ⟨ansT 2 [], ds, r⟩
  | some q => if (doR ds r q).q = 0 then ⟨ansT 0 (if isP q = true then piecesL (encL (doR ds r q).r.l) else []), (doR ds r q).ds, (doR ds r q).r⟩
    else if (doR ds r q).q = 10 ∨ (doR ds r q).q = 11 then ⟨ansT (doR ds r q).q [], (doR ds r q).ds, (doR ds r q).r⟩
    else ⟨ansT 12 [], (doR ds r q).ds, ⟨(doR ds r q).r.p, (doR ds r q).r.l, true⟩⟩
theorem fresh_keep (ds : DS) (r : Nd) (ep : Int) (es : List En) (h : ¬ ((freshR ds r ep es).q = 0 ∨ (freshR ds r ep es).q = 10 ∨ (freshR ds r ep es).q = 11)) : (freshR ds r ep es).r.l = r.l := by
  unfold freshR at h ⊢
  simp only at h ⊢
  rw [if_neg (fun e => h (.inl e))]
theorem prom_keep (ds : DS) (r : Nd) (ep : Int) : (promR ds r ep).r.l = r.l := by
  unfold promR
  simp only
  split <;> rfl
theorem do_keep (ds : DS) (r : Nd) (q : Rq) (h : ¬ ((doR ds r q).q = 0 ∨ (doR ds r q).q = 10 ∨ (doR ds r q).q = 11)) : (doR ds r q).r.l = r.l := by
  cases q with
  | prom ep =>
    change ¬ ((if ep ≤ r.p then (⟨10, ds, r⟩ : ROut) else promR ds r ep).q = 0 ∨ _) at h
    show (if ep ≤ r.p then (⟨10, ds, r⟩ : ROut) else promR ds r ep).r.l = r.l
    split
    · rfl
    · exact prom_keep ds r ep
  | acc ep es =>
    change ¬ ((accR ds r ep es).q = 0 ∨ (accR ds r ep es).q = 10 ∨ (accR ds r ep es).q = 11) at h
    show (accR ds r ep es).r.l = r.l
    unfold accR at h ⊢
    by_cases h1 : ep < r.p
    · rw [if_pos h1]
    · rw [if_neg h1] at h ⊢
      by_cases h2 : ep = r.l.ep
      · rw [if_pos h2]
      · rw [if_neg h2] at h ⊢
        by_cases h3 : r.p < ep
        · rw [if_pos h3] at h ⊢
          by_cases h4 : (promR ds r ep).q = 0
          · rw [if_pos h4] at h ⊢
            rw [fresh_keep _ _ _ _ h, prom_keep]
          · rw [if_neg h4]; exact prom_keep ds r ep
        · rw [if_neg h3] at h ⊢
          exact fresh_keep _ _ _ _ h
  | add ep x =>
    change ¬ ((addRR ds r ep x).q = 0 ∨ (addRR ds r ep x).q = 10 ∨ (addRR ds r ep x).q = 11) at h
    show (addRR ds r ep x).r.l = r.l
    unfold addRR at h ⊢
    split
    · rfl
    · rename_i h1
      rw [if_neg h1] at h
      split
      · rfl
      · rename_i h2
        rw [if_neg h2] at h
        split
        · rfl
        · rename_i h3
          rw [if_neg h3] at h
          simp only at h ⊢
          rw [if_neg (fun e => h (.inl e))]
/-- The reference's node is the program's: it keeps what it had when it is dead. -/
structure Twin (j r : Nd) : Prop where
  gone : r.gone = j.gone
  same : j.gone = false → r = j
  log : RtL r.l
theorem hand_like {ds : DS} {j r : Nd} (hj : NdOk j) (ht : Twin j r) (s : ByteArray) : (refHandQ ds r s).t = (handQ ds j s).t ∧ (refHandQ ds r s).ds = (handQ ds j s).ds ∧ Twin (handQ ds j s).j (refHandQ ds r s).j := by
  unfold refHandQ handQ
  cases hg : j.gone with
  | true =>
    rw [ht.gone, hg, if_pos rfl, if_pos rfl]
    exact ⟨rfl, rfl, ht⟩
  | false =>
    obtain rfl := ht.same hg
    rw [hg, if_neg (by simp), if_neg (by simp)]
    cases hr : readQ s with
    | none => exact ⟨rfl, rfl, ht⟩
    | some q =>
      simp only
      obtain ⟨k1, k2⟩ := do_like ds r q
      have hok := doQ_ok (ds := ds) hj hg (readQ_ok hr)
      rcases k2 with ⟨k3, k4, k5⟩ | ⟨k3, k4, k5⟩
      · rw [k4, k5, k1]
        by_cases h0 : (doR ds r q).q = 0
        · rw [if_pos h0, h0]
          refine ⟨?_, rfl, ?_⟩
          · simp only [true_and]
          · rw [k5] at hok
            exact ⟨rfl, fun _ => rfl, hok.log⟩
        · rw [if_neg h0, if_pos (by omega), if_neg (fun e => h0 e.1)]
          rw [k5] at hok
          exact ⟨rfl, rfl, ⟨rfl, fun _ => rfl, hok.log⟩⟩
      · rw [if_neg (by omega), if_neg (by omega), k4, k5, k1, if_neg (by omega)]
        refine ⟨rfl, rfl, ⟨rfl, (fun e => by cases e), ?_⟩⟩
        have hd := do_keep ds r q k3
        rw [hd]; exact ht.log

set_option maxRecDepth 100000 in
set_option maxHeartbeats 4000000 in
theorem refHandle_acts {yp px : Nat} {ds : DS} {r : Nd} {w : World} (hr : r.gone = false → NdOk r) (s : ByteArray) (hs : s.size ≤ maxLen) :
    Acts Tryz.prog 30 #[.pointer (some ⟨yp, 0, none⟩), .string s] (rj yp px ds r) w (fun e _ => e = .returned (.string (refHandQ ds r s).t)) (rj yp px (refHandQ ds r s).ds (refHandQ ds r s).j) := by
  intro O hS
  have hz0 : Hz w O [rj yp px ds r] w := Hz.start ⟨O, fun _ => False, hS, fun _ e => e.elim, fun _ _ e => e, fun _ e => e, fun _ e => e.elim, (rj yp px ds r).lt hS⟩
  have HZ0 : Hid (Hz w O [rj yp px ds r] w) := hz0
  obtain ⟨ja, jc, jg, hz1⟩ := rj_open hz0
  have x4 := (rj_cells hz1).2.2.2.2.1
  clear hz0 hz1 hS
  have hst := fun (w : World) (a : Addr) (x : ByteArray) (m : Mode) => run_store (P := Tryz.prog) w a (.string x) m rfl
  have hst2 : ∀ (w : World) (a : Addr) (x : Option Addr) (n c : Nat) (m : Mode), (store a (.slice x n c) m).run Tryz.prog w = stored Tryz.prog w a (.slice x n c) m := fun w a x n c m => run_store (P := Tryz.prog) w a _ m rfl
  obtain ⟨J12, hJ12⟩ : ∃ J, ansT 12 [] = J := ⟨_, rfl⟩
  obtain ⟨J2, hJ2⟩ : ∃ J, ansT 2 [] = J := ⟨_, rfl⟩
  obtain ⟨J0, hJ0⟩ : ∃ J, ansT 0 [] = J := ⟨_, rfl⟩
  have C12 : Hid (∀ W, Calls Tryz.prog 70 #[.int .i64 12] W fun x w' => x = .returned (.string J12) ∧ Below W.heap.size W w') := fun W => refAnswer_val 12 (by omega) (by omega) J12 hJ12 W
  have C2 : Hid (∀ W, Calls Tryz.prog 70 #[.int .i64 2] W fun x w' => x = .returned (.string J2) ∧ Below W.heap.size W w') := fun W => refAnswer_val 2 (by omega) (by omega) J2 hJ2 W
  have C0 : Hid (∀ W, Calls Tryz.prog 70 #[.int .i64 0] W fun x w' => x = .returned (.string J0) ∧ Below W.heap.size W w') := fun W => refAnswer_val 0 (by omega) (by omega) J0 hJ0 W
  have hun : refHandQ ds r s = if r.gone = true then ⟨J12, ds, r⟩ else match readQ s with
      | none => ⟨J2, ds, r⟩
      | some q => if (doR ds r q).q = 0 then ⟨ansT 0 (if isP q = true then piecesL (encL (doR ds r q).r.l) else []), (doR ds r q).ds, (doR ds r q).r⟩ else if (doR ds r q).q = 10 ∨ (doR ds r q).q = 11 then ⟨ansT (doR ds r q).q [], (doR ds r q).ds, (doR ds r q).r⟩ else ⟨J12, (doR ds r q).ds, ⟨(doR ds r q).r.p, (doR ds r q).r.l, true⟩⟩ := by
    unfold refHandQ; rw [hJ12, hJ2]
  have HUN : Hid _ := hun
  clear hun hJ12 hJ2
  cases hg : r.gone with
  | true =>
    have HF : Hid (refHandQ ds r s = ⟨J12, ds, r⟩) := by show _ = _; rw [HUN.out, hg]; rfl
    rw [hg] at x4
    clear HUN hg
    go_enter Tryz.func30, Tryz.ntmps30
    go_wp2_with (go_at_call 70; refine (C12.out _).mono ?_; rintro e w1 ⟨rfl, b1⟩)
    go_ret
    rw [HF.out]
    exact ⟨rfl, (HZ0.out.below b1).done1⟩
  | false =>
    rw [hg] at x4
    have CR : Hid (∀ W, Calls Tryz.prog 71 #[.string s] W fun e w' => RdO W.heap.size (readQ s) e w' ∧ Below W.heap.size W w') := fun W => refRead_any s hs W
    cases hrd : readQ s with
    | none =>
      have HF : Hid (refHandQ ds r s = ⟨J2, ds, r⟩) := by show _ = _; rw [HUN.out, hg, hrd]; rfl
      rw [hrd] at CR
      clear HUN hg hrd
      go_enter Tryz.func30, Tryz.ntmps30
      go_upto_region 4 with (go_at_call 71; refine (CR.out _).mono ?_; rintro e w1 ⟨⟨k, ep, tx, a, n, c, g, es, hx, -, -, -⟩, b1⟩; replace hx : e = .returned (.tuple #[.agg #[.string k, .int .i64 ep, .int .i64 tx, .slice a n c], .bool false]) := hx; subst hx; have HZ1 : Hid (Hz w O [rj yp px ds r] w1) := HZ0.out.below b1; clear b1)
      have HZ2 : Hid (Hz w O [rj yp px ds r] (w1.alloc (.cells #[.string k, .int .i64 ep, .int .i64 tx, .slice a n c] 128))) := HZ1.out.below (bel_al _ _)
      generalize w1.alloc (.cells #[.string k, .int .i64 ep, .int .i64 tx, .slice a n c] 128) = w2 at *
      go_wp2_with (go_at_call 70; refine (C2.out _).mono ?_; rintro e w3 ⟨rfl, b3⟩)
      go_ret
      rw [HF.out]
      exact ⟨rfl, (HZ2.out.below b3).done1⟩
    | some q =>
      have hqo := readQ_ok hrd
      have hok : NdOk r := hr hg
      have hnx := doQ_ok (ds := ds) hok hg hqo
      obtain ⟨-, hlk⟩ := do_like ds r q
      have hlm : r.l.es.length ≤ 300 := hok.log.2.1
      have hfin : refHandQ ds r s = if (doR ds r q).q = 0 then ⟨ansT 0 (if isP q = true then piecesL (encL (doR ds r q).r.l) else []), (doR ds r q).ds, (doR ds r q).r⟩ else if (doR ds r q).q = 10 ∨ (doR ds r q).q = 11 then ⟨ansT (doR ds r q).q [], (doR ds r q).ds, (doR ds r q).r⟩ else ⟨J12, (doR ds r q).ds, ⟨(doR ds r q).r.p, (doR ds r q).r.l, true⟩⟩ := by
        rw [HUN.out, if_neg (by rw [hg]; simp), hrd]
      have CD : Hid (∀ (W : World) (k : ByteArray) (ep tx : Int) (a : Option Addr) (n c : Nat) (es : List En) (g : Option Nat) (qb : Nat) (vs : List Value), RqT q k ep tx es → es.length = n → Hz w O [rj yp px ds r, celT 2 (.slice a n c) n (rowC enC es) g, box qb vs] W → Calls Tryz.prog 72 #[.pointer (some ⟨yp, 0, none⟩), .agg #[.string k, .int .i64 ep, .int .i64 tx, .slice a n c]] W fun e w' => e = .returned (.int .i64 (doR ds r q).q) ∧ Hz w O [rj yp px (doR ds r q).ds (doR ds r q).r, box qb vs] w') := fun W k ep tx a n c es g qb vs hk hn h => (Hz.fold (L := [rj yp px ds r, celT 2 (.slice a n c) n (rowC enC es) g]) (M := [box qb vs]) h).act 0 rfl (does_any k ep tx q hqo hk hn hlm)
      have hlg : (doR ds r q).q = 0 → RtL (doR ds r q).r.l := fun h0 => by
        rcases hlk with ⟨_, _, k5⟩ | ⟨k3, _, _⟩
        · rw [k5] at hnx; exact hnx.log
        · exact absurd (.inl h0) k3
      obtain ⟨⟨xq, xd, xr⟩, hX⟩ : ∃ X, doR ds r q = X := ⟨_, rfl⟩
      rw [hX] at hfin CD hlg
      simp only at hfin CD hlg
      have HF0 : Hid (refHandQ ds r s = if xq = 0 then ⟨ansT 0 (if isP q = true then piecesL (encL xr.l) else []), xd, xr⟩ else if xq = 10 ∨ xq = 11 then ⟨ansT xq [], xd, xr⟩ else ⟨J12, xd, ⟨xr.p, xr.l, true⟩⟩) := hfin
      have HLG : Hid (xq = 0 → RtL xr.l) := hlg
      rw [hrd] at CR
      clear HUN hg hrd hqo hok hnx hlk hlm hfin hX hlg
      go_enter Tryz.func30, Tryz.ntmps30
      go_upto_region 4 with (go_at_call 71; refine (CR.out _).mono ?_; rintro e w1 ⟨⟨k, ep, tx, a, n, c, g, es, hx, hn, hC, hk⟩, b1⟩; replace hx : e = .returned (.tuple #[.agg #[.string k, .int .i64 ep, .int .i64 tx, .slice a n c], .bool true]) := hx; subst hx; have HZ1 : Hid (Hz w O [celT 2 (.slice a n c) n (rowC enC es) g, rj yp px ds r] w1) := put_celA HZ0.out b1 hC; have HRK : Hid (RqT q k ep tx es ∧ es.length = n) := ⟨hk q rfl, hn⟩; clear b1 hC hk hn)
      have HZ2 : Hid (Hz w O [box w1.heap.size [.string k, .int .i64 ep, .int .i64 tx, .slice a n c], celT 2 (.slice a n c) n (rowC enC es) g, rj yp px ds r] (w1.alloc (.cells #[.string k, .int .i64 ep, .int .i64 tx, .slice a n c] 128))) := HZ1.out.box [.string k, .int .i64 ep, .int .i64 tx, .slice a n c] _
      clear HZ1 x4
      generalize w1.alloc (.cells #[.string k, .int .i64 ep, .int .i64 tx, .slice a n c] 128) = w2 at *
      generalize w1.heap.size = QB at *
      have HZ3 : Hid (Hz w O [rj yp px ds r, celT 2 (.slice a n c) n (rowC enC es) g, box QB [.string k, .int .i64 ep, .int .i64 tx, .slice a n c]] w2) := HZ2.out.swap.swap2.swap
      have q0 := HZ3.out.cell 2 rfl (j := 0) rfl
      have q1 := HZ3.out.cell 2 rfl (j := 1) rfl
      have q2 := HZ3.out.cell 2 rfl (j := 2) rfl
      have q3 := HZ3.out.cell 2 rfl (j := 3) rfl
      clear HZ2
      go_upto_region 7 with (go_at_call 72; refine (CD.out _ k ep tx a n c es g QB _ HRK.out.1 HRK.out.2 HZ3.out).mono ?_; rintro e w4 ⟨rfl, hz4⟩; have HZ4 : Hid (Hz w O [rj yp px xd xr, box QB [.string k, .int .i64 ep, .int .i64 tx, .slice a n c]] w4) := hz4; clear hz4)
      clear q0 q1 q2 q3 HZ3
      by_cases h0 : xq = 0
      · subst h0
        have HF : Hid (refHandQ ds r s = ⟨ansT 0 (if isP q = true then piecesL (encL xr.l) else []), xd, xr⟩) := by show _ = _; rw [HF0.out, if_pos rfl]
        have hlr := HLG.out rfl
        clear HF0 HLG
        have q0 := HZ4.out.cell 1 rfl (j := 0) rfl
        have hrk := HRK.out.1
        obtain ⟨ja, jc, jg, hz5⟩ := rj_open HZ4.out
        obtain ⟨-, -, y2, y3, -, -⟩ := rj_cells hz5
        cases q with
        | prom ep9 =>
          obtain ⟨rfl, rfl, rfl⟩ := hrk
          change w4.cell? ⟨QB, 0, none⟩ = some (.string ⟨#[112]⟩) at q0
          obtain ⟨m, hm⟩ : ∃ m, xr.l.es.length = m := ⟨_, rfl⟩
          obtain ⟨J, hJ⟩ : ∃ J, ansT 0 (piecesL (encL xr.l)) = J := ⟨_, rfl⟩
          rw [hm] at y3
          have CT : Hid (Calls Tryz.prog 55 #[.agg #[.int .i64 xr.l.ep, .slice ja m jc]] w4 fun e w' => e = .returned (.string J) ∧ Below w4.heap.size w4 w') := by
            obtain ⟨O3, k3⟩ := hz5.get 2 rfl
            exact ref15Told_val (Lie.of_cel wideN k3.1) xr.l.ep m jc hm hlr J hJ
          have HF2 : Hid (refHandQ ds r s = ⟨J, xd, xr⟩) := by show _ = _; rw [HF.out, ← hJ]; rfl
          clear hz5 hlr hm hJ HF
          go_wp2_with (go_at_call 55; refine CT.out.mono ?_; rintro e w5 ⟨rfl, b5⟩)
          go_ret
          rw [HF2.out]
          exact ⟨rfl, (HZ4.out.below b5).done1⟩
        | acc ep9 l9 =>
          obtain ⟨rfl, rfl, rfl⟩ := hrk
          change w4.cell? ⟨QB, 0, none⟩ = some (.string ⟨#[97]⟩) at q0
          have HF2 : Hid (refHandQ ds r s = ⟨J0, xd, xr⟩) := by show _ = _; rw [HF.out, ← hJ0]; rfl
          clear hz5 hlr HF hJ0 y2 y3
          go_wp2_with (go_at_call 70; refine (C0.out _).mono ?_; rintro e w5 ⟨rfl, b5⟩)
          go_ret
          rw [HF2.out]
          exact ⟨rfl, (HZ4.out.below b5).done1⟩
        | add ep9 x9 =>
          obtain ⟨rfl, rfl, rfl, rfl⟩ := hrk
          change w4.cell? ⟨QB, 0, none⟩ = some (.string ⟨#[119]⟩) at q0
          have HF2 : Hid (refHandQ ds r s = ⟨J0, xd, xr⟩) := by show _ = _; rw [HF.out, ← hJ0]; rfl
          clear hz5 hlr HF hJ0 y2 y3
          go_wp2_with (go_at_call 70; refine (C0.out _).mono ?_; rintro e w5 ⟨rfl, b5⟩)
          go_ret
          rw [HF2.out]
          exact ⟨rfl, (HZ4.out.below b5).done1⟩
      · have hb0 : (xq == 0) = false := beq_eq_false_iff_ne.2 h0
        by_cases h10 : xq = 10
        · subst h10
          obtain ⟨J, hJ⟩ : ∃ J, ansT 10 [] = J := ⟨_, rfl⟩
          have HF : Hid (refHandQ ds r s = ⟨J, xd, xr⟩) := by show _ = _; rw [HF0.out, if_neg (by omega), if_pos (.inl rfl), hJ]
          have CJ : Hid (∀ W, Calls Tryz.prog 70 #[.int .i64 10] W fun x w' => x = .returned (.string J) ∧ Below W.heap.size W w') := fun W => refAnswer_val 10 (by omega) (by omega) J hJ W
          clear HF0 HLG hJ hJ0
          go_wp2_with (go_at_call 70; refine (CJ.out _).mono ?_; rintro e w5 ⟨rfl, b5⟩)
          go_ret
          rw [HF.out]
          exact ⟨rfl, (HZ4.out.below b5).done1⟩
        · have hb10 : (xq == 10) = false := beq_eq_false_iff_ne.2 h10
          by_cases h11 : xq = 11
          · subst h11
            obtain ⟨J, hJ⟩ : ∃ J, ansT 11 [] = J := ⟨_, rfl⟩
            have HF : Hid (refHandQ ds r s = ⟨J, xd, xr⟩) := by show _ = _; rw [HF0.out, if_neg (by omega), if_pos (.inr rfl), hJ]
            have CJ : Hid (∀ W, Calls Tryz.prog 70 #[.int .i64 11] W fun x w' => x = .returned (.string J) ∧ Below W.heap.size W w') := fun W => refAnswer_val 11 (by omega) (by omega) J hJ W
            clear HF0 HLG hJ hJ0
            go_wp2_with (go_at_call 70; refine (CJ.out _).mono ?_; rintro e w5 ⟨rfl, b5⟩)
            go_ret
            rw [HF.out]
            exact ⟨rfl, (HZ4.out.below b5).done1⟩
          · have hb11 : (xq == 11) = false := beq_eq_false_iff_ne.2 h11
            have HF : Hid (refHandQ ds r s = ⟨J12, xd, ⟨xr.p, xr.l, true⟩⟩) := by show _ = _; rw [HF0.out, if_neg h0, if_neg (by omega)]
            obtain ⟨ja, jc, jg, hz5⟩ := rj_open HZ4.out
            have HZ5 : Hid (Hz w O (rjL yp px xd xr ja jc jg ++ [box QB [.string k, .int .i64 ep, .int .i64 tx, .slice a n c]]) w4) := hz5
            have y4 := (rj_cells hz5).2.2.2.2.1
            have f4 := (rj_cells hz5).2.2.2.2.2 4
            clear HF0 HLG hJ0 hz5
            go_upto_region 16 with fail
            have HZ6 : Hid (Hz w O (rjL yp px xd ⟨xr.p, xr.l, true⟩ ja jc jg ++ [box QB [.string k, .int .i64 ep, .int .i64 tx, .slice a n c]]) (w4.setCell ⟨yp, 4, none⟩ (.bool true))) := HZ5.out.setBox 0 rfl 4 (.bool true) (by simp [rjV])
            clear y4 f4 HZ5
            generalize w4.setCell ⟨yp, 4, none⟩ (.bool true) = w5 at *
            go_wp2_with (go_at_call 70; refine (C12.out _).mono ?_; rintro e w6 ⟨rfl, b6⟩)
            go_ret
            rw [HF.out]
            exact ⟨rfl, (rj_fold (HZ6.out.below b6)).done1⟩
end Go.Proofs.YtfmhmokbbkliaaaGreat.Jrn
