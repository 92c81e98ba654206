/- Part 28 of the proof: JrnN, JrnT, JrnA1, JrnU. -/
import Derived.Test.YtfmhmokbbkliaaaGreatB05
import Derived.Test.YtfmhmokbbkliaaaGreatB27
import Derived.Lib.Join

/- Plain: what an answer tells. -/
namespace Go.Proofs.YtfmhmokbbkliaaaGreat.Jrn
open Go.Proofs.YtfmhmokbbkliaaaGreat Go.Proofs.YtfmhmokbbkliaaaGreat.Wir Go.Proofs.YtfmhmokbbkliaaaGreat.Lgg
open Go.WideShapes (bytes_inj)
set_option linter.unusedVariables false

/-- Texts, one behind the other. -/
def catL (ss : List ByteArray) : ByteArray := ⟨((ss.map (·.data.toList)).flatten).toArray⟩
def logP (rest : List ByteArray) : Option (Lg × Int) := match parseL (catL rest) with
  | some (l, R) => if piecesL (encL l) = rest then some (l, 0) else none
  | none => none
def ansP (ts : List ByteArray) : Option (Lg × Int) := match ts with
  | [] => none
  | t :: rest => match numP t with
    | none => none
    | some e => if 0 ≤ e ∧ e ≤ 14 then (if rest.length = 0 then some (⟨0, []⟩, e) else if e = 0 then logP rest else none) else none
/-- The log, the error, that an answer has. -/
def toldP (s : ByteArray) : Lg × Int := match splitL s with
  | none => (⟨0, []⟩, 2)
  | some ts => match ansP ts with
    | none => (⟨0, []⟩, 2)
    | some r => r
theorem join_flat : ∀ xs : List (List UInt8), Lib.join xs [] = xs.flatten
  | [] => rfl
  | x :: r => by
    rw [Lib.join_cons]
    unfold Lib.joinTail
    simp
theorem cat_size : ∀ ss : List ByteArray, (∀ s ∈ ss, s.size ≤ 4000) → (catL ss).size ≤ 4000 * ss.length
  | [], _ => by show (0 : Nat) ≤ _; omega
  | s :: r, h => by
    have ih := cat_size r (fun x hx => h x (by simp [hx]))
    have h1 := h s (by simp)
    have e1 : (catL (s :: r)).size = s.size + (catL r).size := by
      have hs := size_list s
      simp only [catL, mk_size, List.map_cons, List.flatten_cons, List.length_append]
      omega
    rw [e1, List.length_cons]; omega
theorem takeT_small {s t r : ByteArray} (h : takeT s = some (t, r)) : t.size ≤ 4000 := by
  obtain ⟨n, q, h1, h2, h3, h4⟩ := takeT_yes h
  obtain ⟨_, _, _, _, _, h5, h6⟩ := takeC_yes h1
  rw [← h3, ByteArray.size_extract]
  omega
theorem many_small : ∀ (n : Nat) (r : ByteArray) (ss : List ByteArray), takeMany n r = some ss → ∀ s ∈ ss, s.size ≤ 4000
  | 0, r, ss, h => by unfold takeMany at h; split at h <;> cases h; simp
  | n + 1, r, ss, h => by
    unfold takeMany at h
    split at h
    · cases h
    · rename_i t q ht
      cases hm : takeMany n q with
      | none => rw [hm] at h; cases h
      | some l =>
        rw [hm] at h
        cases h
        intro s hs
        rcases List.mem_cons.1 hs with rfl | hs
        · exact takeT_small ht
        · exact many_small n q l hm s hs
theorem split_small {s : ByteArray} {ss : List ByteArray} (h : splitL s = some ss) : ∀ x ∈ ss, x.size ≤ 4000 := by
  unfold splitL at h
  split at h
  · cases h
  · exact many_small _ _ _ h
theorem enc_bound {l : Lg} (h : RtL l) : (encL l).size ≤ 200000 := by
  have h1 := encL_size (ep := l.ep) (es := l.es) h
  have h2 := h.2.1
  have h3 : (encL l).size ≤ 24 + l.es.length * 624 := h1
  omega
/-- Pieces, one behind the other, are the text. -/
theorem pieces_cat : ∀ (n : Nat) (b : ByteArray), b.size ≤ n → catL (piecesL b) = b
  | 0, b, h => by
    rw [pieces_nil (by omega)]
    refine bytes_inj ?_
    have : b.data.toList.length = 0 := by rw [size_list]; omega
    rw [List.length_eq_zero_iff.1 this]
    rfl
  | n + 1, b, h => by
    by_cases h0 : b.size = 0
    · exact pieces_cat 0 b (by omega)
    · rw [pieces_cons h0]
      have ih := pieces_cat n (b.extract (min b.size 4000) b.size) (by rw [ByteArray.size_extract]; omega)
      refine bytes_inj ?_
      have e1 : (catL (b.extract 0 (min b.size 4000) :: piecesL (b.extract (min b.size 4000) b.size))).data.toList = (b.extract 0 (min b.size 4000)).data.toList ++ (catL (piecesL (b.extract (min b.size 4000) b.size))).data.toList := by
        unfold catL
        simp
      rw [e1, ih, ← app_list, ByteArray.extract_append_extract]
      simp

end Go.Proofs.YtfmhmokbbkliaaaGreat.Jrn

/- Plain: requests and answers that were made are read back; the disk of a node. -/
namespace Go.Proofs.YtfmhmokbbkliaaaGreat.Jrn
open Go.Proofs.YtfmhmokbbkliaaaGreat Go.Proofs.YtfmhmokbbkliaaaGreat.Wir Go.Proofs.YtfmhmokbbkliaaaGreat.Lgg
open Go.WideShapes (bytes_inj)
set_option linter.unusedVariables false

theorem numP_back (n : Int) (h0 : -9223372036854775808 ≤ n) (h1 : n ≤ 9223372036854775807) : numP (numT n) = some n := by
  unfold numP
  have e : (numT n).data.toList = numB n ++ [] := by unfold numT; simp
  rw [e, take_num n [] h0 h1]
  simp only
  rw [if_pos ?_, unzig_zig]
  rw [ByteArray.size_extract]
  unfold numT
  rw [mk_size]
  omega
theorem joinOk_of {ss : List ByteArray} (h1 : ss.length ≤ 1000) (h2 : ∀ s ∈ ss, s.size ≤ 4000) : joinOk ss = true := (joinOk_iff ss).2 ⟨h1, h2⟩
theorem split_join {ss : List ByteArray} (h : joinOk ss = true) : splitL (joinT ss) = some ss := by
  unfold joinT; rw [if_pos h]; exact split_back ss h
theorem join_small {ss : List ByteArray} : (joinT ss).size ≤ maxLen := by
  unfold joinT
  split
  · rename_i h; exact join_size ss h
  · show 0 ≤ maxLen; unfold maxLen; omega
theorem numT_4000 {n : Int} (h0 : -9223372036854775808 ≤ n) (h1 : n ≤ 9223372036854775807) : (numT n).size ≤ 4000 := by have := numT_size h0 h1; omega
theorem read_prom (ep : Int) (h0 : -9223372036854775808 ≤ ep) (h1 : ep ≤ 9223372036854775807) : readQ (joinT [pT, numT ep]) = if epR ep = true then some (.prom ep) else none := by
  unfold readQ
  rw [split_join (joinOk_of (by simp) (fun s hs => by simp at hs; rcases hs with rfl | rfl; (· show 1 ≤ 4000; omega); exact numT_4000 h0 h1))]
  simp only [textsQ, numP_back ep h0 h1]
  congr 1
theorem numd_d {es : List En} (h : RtE es) : numd (es.map En.d) = es := by
  refine List.ext_getElem (by rw [numd_len, List.length_map]) (fun i h1 h2 => ?_)
  rw [numd_at]
  have h3 := (h i h2).1
  cases he : es[i] with
  | mk tx d =>
    rw [he] at h3
    simp only at h3
    simp [he, h3]
theorem read_acc (ep : Int) (es : List En) (h : RtL ⟨ep, es⟩) : readQ (joinT (accTs ep es)) = if epR ep = true then some (.acc ep es) else none := by
  have hep := ep_in h.1
  simp only at hep
  have hd : ∀ x ∈ es, x.d.size ≤ 600 := fun x hx => by
    obtain ⟨i, hi, rfl⟩ := List.getElem_of_mem hx
    exact (h.2.2 i hi).2
  have hl : es.length ≤ 300 := h.2.1
  unfold readQ accTs
  rw [split_join (joinOk_of (by simp; omega) (fun s hs => by
    rcases List.mem_cons.1 hs with rfl | hs
    · show 1 ≤ 4000; omega
    · rcases List.mem_cons.1 hs with rfl | hs
      · exact numT_4000 (by omega) (by omega)
      · obtain ⟨x, hx, rfl⟩ := List.mem_map.1 hs
        have := hd x hx; omega))]
  simp only [textsQ, numP_back ep (by omega) (by omega)]
  have hk : kindQ aT ep (es.map En.d) = some (.acc ep es) := by
    unfold kindQ
    rw [if_neg (by decide), if_pos rfl, if_pos ((smallB_iff _).2 ⟨by rw [List.length_map]; exact hl, fun d hd2 => by obtain ⟨x, hx, rfl⟩ := List.mem_map.1 hd2; exact hd x hx⟩), numd_d h.2.2]
  rw [hk]
theorem read_add (ep : Int) (h0 : -9223372036854775808 ≤ ep) (h1 : ep ≤ 9223372036854775807) (x : En) (hx : addR1 x = true) : readQ (joinT [wT, numT ep, numT x.tx, x.d]) = if epR ep = true then some (.add ep x) else none := by
  obtain ⟨k1, k2, k3⟩ := (addR1_iff x).1 hx
  unfold readQ
  rw [split_join (joinOk_of (by simp) (fun s hs => by
    simp at hs
    rcases hs with rfl | rfl | rfl | rfl
    · show 1 ≤ 4000; omega
    · exact numT_4000 h0 h1
    · exact numT_4000 (by omega) (by omega)
    · omega))]
  simp only [textsQ, numP_back ep h0 h1]
  have hk : kindQ wT ep [numT x.tx, x.d] = some (.add ep x) := by
    unfold kindQ
    rw [if_neg (by decide), if_neg (by decide), if_pos rfl]
    unfold wQ
    simp only [numP_back x.tx (by omega) (by omega)]
    rw [if_pos hx]
  rw [hk]
theorem read_empty : readQ ⟨#[]⟩ = none := by
  unfold readQ
  have h : splitL ⟨#[]⟩ = none := by
    unfold splitL
    have h2 : takeC 1000 ⟨#[]⟩ = none := by
      cases hc : takeC 1000 ⟨#[]⟩ with
      | none => rfl
      | some p =>
        obtain ⟨n, r⟩ := p
        exfalso
        unfold takeC at hc
        have : takeZ 0 0 (⟨#[]⟩ : ByteArray).data.toList = none := rfl
        rw [this] at hc
        cases hc
    rw [h2]
  rw [h]

/-! ### answers -/
theorem told_err (e : Int) (h0 : 0 ≤ e) (h1 : e ≤ 14) : toldP (ansT e []) = (⟨0, []⟩, e) := by
  unfold toldP ansT
  rw [split_join (joinOk_of (by simp) (fun s hs => by simp at hs; subst hs; exact numT_4000 (by omega) (by omega)))]
  simp only [ansP, numP_back e (by omega) (by omega)]
  rw [if_pos ⟨h0, h1⟩]
  rfl
theorem pieces_few {l : Lg} (h : RtL l) : (piecesL (encL l)).length ≤ 52 ∧ (piecesL (encL l)).length ≠ 0 := by
  have hb := enc_bound h
  have hp := encL_pos l
  have aux : ∀ (n : Nat) (b : ByteArray), b.size ≤ n → 4000 * (piecesL b).length ≤ b.size + 3999 := by
    intro n
    induction n with
    | zero => intro b hb; rw [pieces_nil (by omega)]; simp
    | succ n ih =>
      intro b hb
      by_cases h0 : b.size = 0
      · rw [pieces_nil h0]; simp
      · rw [pieces_cons h0, List.length_cons]
        by_cases h4 : b.size ≤ 4000
        · have hz : (b.extract (min b.size 4000) b.size).size = 0 := by rw [ByteArray.size_extract]; omega
          rw [pieces_nil hz]; simp; omega
        · have hs : (b.extract (min b.size 4000) b.size).size = b.size - 4000 := by rw [ByteArray.size_extract]; omega
          have := ih _ (by rw [hs]; omega)
          rw [hs] at this
          omega
  have h1 := aux _ (encL l) (Nat.le_refl _)
  refine ⟨by omega, ?_⟩
  rw [pieces_cons (by omega)]
  simp
theorem told_log {l : Lg} (h : RtL l) : toldP (ansT 0 (piecesL (encL l))) = (l, 0) := by
  obtain ⟨h1, h2⟩ := pieces_few h
  have h3 := (pieces_size (encL l).size _ (Nat.le_refl _)).1
  unfold toldP ansT
  rw [split_join (joinOk_of (by simp; omega) (fun s hs => by
    rcases List.mem_cons.1 hs with rfl | hs
    · exact numT_4000 (by omega) (by omega)
    · exact h3 s hs))]
  simp only [ansP, numP_back 0 (by omega) (by omega)]
  rw [if_pos (by omega), if_neg h2, if_pos trivial]
  unfold logP
  rw [pieces_cat _ _ (Nat.le_refl _), parse_whole h]
  simp only
  rw [if_pos trivial]

/-! ### four files -/
abbrev lgL : List UInt8 := lgN.data.toList
abbrev prL : List UInt8 := prN.data.toList
def Keys (S : FS) : Prop := ∀ p ∈ S, p.1 = lgL ∨ p.1 = prL ∨ p.1 = nwN lgL ∨ p.1 = nwN prL
theorem lg_pr : lgL ≠ prL := by decide
theorem four_ne : lgL ≠ nwN lgL ∧ lgL ≠ nwN prL ∧ prL ≠ nwN lgL ∧ prL ≠ nwN prL ∧ nwN lgL ≠ nwN prL := by decide
theorem tot_four {S : FS} (hS : Rise S) (hk : Keys S) : tot S = flen (fget S lgL) + flen (fget S prL) + flen (fget S (nwN lgL)) + flen (fget S (nwN prL)) ∧ S.length ≤ 4 := by
  obtain ⟨n1, n2, n3, n4, n5⟩ := four_ne
  have n0 := lg_pr
  have s1 := rise_fdel hS lgL
  have s2 := rise_fdel s1 prL
  have s3 := rise_fdel s2 (nwN lgL)
  have t1 := tot_fdel hS lgL
  have t2 := tot_fdel s1 prL
  have t3 := tot_fdel s2 (nwN lgL)
  have t4 := tot_fdel s3 (nwN prL)
  have l1 := len_fdel hS lgL
  have l2 := len_fdel s1 prL
  have l3 := len_fdel s2 (nwN lgL)
  have l4 := len_fdel s3 (nwN prL)
  rw [fget_fdel_other hS n0.symm] at t2 l2
  rw [fget_fdel_other s1 n3.symm, fget_fdel_other hS n1.symm] at t3 l3
  rw [fget_fdel_other s2 n5.symm, fget_fdel_other s1 n4.symm, fget_fdel_other hS n2.symm] at t4 l4
  have he : fdel (fdel (fdel (fdel S lgL) prL) (nwN lgL)) (nwN prL) = [] := by
    cases hx : fdel (fdel (fdel (fdel S lgL) prL) (nwN lgL)) (nwN prL) with
    | nil => rfl
    | cons p r =>
      have hp : p ∈ fdel (fdel (fdel (fdel S lgL) prL) (nwN lgL)) (nwN prL) := by rw [hx]; simp
      obtain ⟨h4, e4⟩ := mem_fdel.1 hp
      obtain ⟨h3, e3⟩ := mem_fdel.1 h4
      obtain ⟨h2, e2⟩ := mem_fdel.1 h3
      obtain ⟨h1, e1⟩ := mem_fdel.1 h2
      rcases hk p h1 with e | e | e | e
      · exact absurd e e1
      · exact absurd e e2
      · exact absurd e e3
      · exact absurd e e4
  rw [he] at t4 l4
  rw [tot_nil] at t4
  simp only [List.length_nil] at l4
  refine ⟨by omega, ?_⟩
  split at l1 <;> split at l2 <;> split at l3 <;> split at l4 <;> omega

end Go.Proofs.YtfmhmokbbkliaaaGreat.Jrn

/- Plain: what the reference reads of an answer is what the program reads. -/
namespace Go.Proofs.YtfmhmokbbkliaaaGreat.Jrn
open Go.Proofs.YtfmhmokbbkliaaaGreat Go.Proofs.YtfmhmokbbkliaaaGreat.Wir Go.Proofs.YtfmhmokbbkliaaaGreat.Lgg
open Go.WideShapes (bytes_inj)
set_option linter.unusedVariables false

theorem many_sd : ∀ (n : Nat) (r : ByteArray) (ss : List ByteArray), takeMany n r = some ss → r.data.toList = textsB ss ∧ ss.length = n ∧ ∀ s ∈ ss, s.size ≤ 4000
  | 0, r, ss, h => by
    rw [takeMany] at h
    split at h
    · rename_i h0
      cases h
      rw [← size_list] at h0
      exact ⟨List.eq_nil_of_length_eq_zero h0, rfl, by simp⟩
    · cases h
  | n + 1, r, ss, h => by
    rw [takeMany] at h
    cases hT : takeT r with
    | none => rw [hT] at h; cases h
    | some p =>
      obtain ⟨t, q⟩ := p
      rw [hT] at h
      simp only [Option.map_eq_some_iff] at h
      obtain ⟨m, hm, rfl⟩ := h
      obtain ⟨e1, e2, e3⟩ := many_sd n q m hm
      obtain ⟨e4, e5⟩ := takeT_sound hT
      refine ⟨?_, by simp [e2], fun s hs => ?_⟩
      · rw [e4, e1]; simp [textsB]
      · rcases List.mem_cons.1 hs with rfl | hs
        · exact e5
        · exact e3 s hs
/-- What is split is what was joined. -/
theorem split_sd {s : ByteArray} {ss : List ByteArray} (h : splitL s = some ss) : joinT ss = s := by
  unfold splitL at h
  cases hC : takeC 1000 s with
  | none => rw [hC] at h; cases h
  | some p =>
    obtain ⟨n, r⟩ := p
    rw [hC] at h
    obtain ⟨e1, e2, e3⟩ := many_sd n r ss h
    obtain ⟨e4, e5⟩ := takeC_sound hC
    unfold joinT
    rw [if_pos ((joinOk_iff ss).2 ⟨by omega, e3⟩)]
    refine bytes_inj ?_
    show joinB ss = s.data.toList
    rw [e4, e1, joinB, e2]
/-- A number that is read is written so. -/
theorem numP_sd {t : ByteArray} {n : Int} (h : numP t = some n) : numT n = t ∧ -9223372036854775808 ≤ n ∧ n ≤ 9223372036854775807 := by
  unfold numP at h
  split at h
  · rename_i z k hz
    split at h
    · rename_i h0
      cases h
      obtain ⟨e1, e2, e3⟩ := take_sound hz
      rw [ByteArray.size_extract] at h0
      have hl := size_list t
      have hk : t.data.toList.take k = t.data.toList := List.take_of_length_le (by omega)
      rw [hk] at e3
      refine ⟨bytes_inj ?_, unzig_range e1⟩
      show numB (Lib.unzigzag z) = t.data.toList
      exact e3.symm
    · cases h
  · cases h

/-- What is read behind OK. -/
def refLog (s : ByteArray) (rest : List ByteArray) : Lg × Int := match parseL (catL rest) with
  | none => (⟨0, []⟩, 2)
  | some (l, R) => if R.size = 0 then (if ansT 0 (piecesL (encL l)) = s then (l, 0) else (⟨0, []⟩, 2)) else (⟨0, []⟩, 2)
def refAns (s t : ByteArray) (rest : List ByteArray) : Lg × Int := match numP t with
  | none => (⟨0, []⟩, 2)
  | some e => if e < 0 then (⟨0, []⟩, 2) else if 14 < e then (⟨0, []⟩, 2) else if e ≠ 0 ∧ rest.length ≠ 0 then (⟨0, []⟩, 2) else if e ≠ 0 ∨ rest.length = 0 then (⟨0, []⟩, e) else refLog s rest
def refToldP (s : ByteArray) : Lg × Int := match splitL s with
  | none => (⟨0, []⟩, 2)
  | some [] => (⟨0, []⟩, 2)
  | some (t :: rest) => refAns s t rest
theorem refLog_is {s t : ByteArray} {rest : List ByteArray} (hs : splitL s = some (t :: rest)) (ht : numP t = some 0) : refLog s rest = match logP rest with | none => (⟨0, []⟩, 2) | some r => r := by
  unfold refLog logP
  cases hp : parseL (catL rest) with
  | none => rfl
  | some p =>
    obtain ⟨l, R⟩ := p
    simp only
    have hl := parse_right hp
    have hj := split_sd hs
    rw [← (numP_sd ht).1] at hj
    have hfw : piecesL (encL l) = rest → R.size = 0 ∧ ansT 0 (piecesL (encL l)) = s := fun e => by
      have hc : catL rest = encL l := by rw [← e]; exact pieces_cat _ _ (Nat.le_refl _)
      rw [hc, parse_whole hl] at hp
      simp only [Option.some.injEq, Prod.mk.injEq, true_and] at hp
      refine ⟨by rw [← hp]; rfl, ?_⟩
      unfold ansT
      rw [e]; exact hj
    have hbw : ansT 0 (piecesL (encL l)) = s → piecesL (encL l) = rest := fun e => by
      obtain ⟨h1, h2⟩ := pieces_few hl
      have h3 := (pieces_size (encL l).size _ (Nat.le_refl _)).1
      have h4 : splitL (ansT 0 (piecesL (encL l))) = some (numT 0 :: piecesL (encL l)) := by
        unfold ansT
        exact split_join (joinOk_of (by simp; omega) (fun x hx => by
          rcases List.mem_cons.1 hx with rfl | hx
          · exact numT_4000 (by omega) (by omega)
          · exact h3 x hx))
      rw [e, hs] at h4
      simp only [Option.some.injEq, List.cons.injEq] at h4
      exact h4.2.symm
    by_cases hP : piecesL (encL l) = rest
    · obtain ⟨h1, h2⟩ := hfw hP
      rw [if_pos h1, if_pos h2, if_pos hP]
    · rw [if_neg hP]
      by_cases hR : R.size = 0
      · rw [if_pos hR, if_neg (fun e => hP (hbw e))]
      · rw [if_neg hR]
theorem refTold_is (s : ByteArray) : refToldP s = toldP s := by
  unfold refToldP toldP
  cases hs : splitL s with
  | none => rfl
  | some ts =>
    cases ts with
    | nil => rfl
    | cons t rest =>
      simp only [ansP]
      unfold refAns
      cases hn : numP t with
      | none => rfl
      | some e =>
        simp only
        by_cases h0 : e < 0
        · rw [if_pos h0, if_neg (show ¬ (0 ≤ e ∧ e ≤ 14) by omega)]
        · rw [if_neg h0]
          by_cases h14 : 14 < e
          · rw [if_pos h14, if_neg (show ¬ (0 ≤ e ∧ e ≤ 14) by omega)]
          · rw [if_neg h14, if_pos (show 0 ≤ e ∧ e ≤ 14 by omega)]
            by_cases hr : rest.length = 0
            · rw [if_neg (show ¬ (e ≠ 0 ∧ rest.length ≠ 0) from fun k => k.2 hr), if_pos (show e ≠ 0 ∨ rest.length = 0 from Or.inr hr), if_pos hr]
            · rw [if_neg hr]
              by_cases he : e = 0
              · subst he
                rw [if_neg (show ¬ ((0 : Int) ≠ 0 ∧ rest.length ≠ 0) from fun k => k.1 rfl), if_neg (show ¬ ((0 : Int) ≠ 0 ∨ rest.length = 0) from fun k => k.elim (fun q => q rfl) hr), if_pos rfl]
                exact refLog_is hs hn
              · rw [if_pos (show e ≠ 0 ∧ rest.length ≠ 0 from ⟨he, hr⟩), if_neg he]
end Go.Proofs.YtfmhmokbbkliaaaGreat.Jrn

/- Plain: a node's four files, and what Store and Add leave of them, whenever the power goes. -/
namespace Go.Proofs.YtfmhmokbbkliaaaGreat.Jrn
open Go.Proofs.YtfmhmokbbkliaaaGreat Go.Proofs.YtfmhmokbbkliaaaGreat.Wir Go.Proofs.YtfmhmokbbkliaaaGreat.Lgg
set_option linter.unusedVariables false

/-- What Add does. -/
structure Adr (ds : DS) (n A b : List UInt8) (a : Nat) (e : Int) (ds' : DS) : Prop where
  room : ds'.room = ds.room
  rise : Rise ds'.S
  rest : ∀ m, m ≠ n → fget ds'.S m = fget ds.S m
  ways : (e = 0 ∧ ds'.down = false ∧ 0 ≤ ds'.fuse ∧ (ds.fuse = 0 → ds'.fuse = 0) ∧ fget ds'.S n = some (A ++ b, (A ++ b).length)) ∨ (e = 12 ∧ ds.fuse ≠ 0 ∧ ds'.down = true ∧ (fget ds'.S n = some (A, a) ∨ fget ds'.S n = some (A ++ b, a)))

section
variable {room f : Int} {S : FS} {s : ByteArray} {b : ByteArray} {A : List UInt8} {a : Nat}
theorem add_gen (hS : Rise S) (hf : 0 ≤ f) (hs : nmOk s = true) (hg : fget S s.data.toList = some (A, a)) (hb : A.length + b.size ≤ 400000) (hr : ((tot S + b.size : Nat) : Int) ≤ room) :
    ∃ e ds', addR ⟨room, f, false, S⟩ s b = (e, ds') ∧ Adr ⟨room, f, false, S⟩ s.data.toList A b.data.toList a e ds' := by
  have hs2 := (mk_nm s).1 hs
  have hsl : s.data.toList.length = s.size := Wir.size_list s
  obtain ⟨hn1, hn2⟩ := nm_new (n := s.data.toList) (by omega)
  have hbl : b.data.toList.length = b.size := Wir.size_list b
  have hE : rdE ⟨room, f, false, S⟩ s.data.toList = 0 := by rw [rdE_eq _ rfl]; exact refM_some hg
  unfold addR
  rw [if_pos hE]
  generalize s.data.toList = n at *
  generalize b.data.toList = B at *
  have hA : refA ⟨room, f, false, S⟩ n B = 0 := refA_ok hn2 (by rw [hg]; show A.length + _ ≤ _; omega) (.inl (by rw [hg]; rfl)) (by rw [hbl]; exact hr)
  have hap : fapp n B S = fput S n (A ++ B, a) := by unfold fapp; rw [hg]
  unfold apsR
  rw [hA]
  rcases beg_two room f S (fapp n B) hf with ⟨k1, k2, f1, k3, k4, k5⟩ | ⟨k1, k2, k3⟩
  · rw [if_pos k1, k5, hap]
    have hS1 := rise_fput hS n (A ++ B, a)
    have hg1 : fget (fput S n (A ++ B, a)) n = some (A ++ B, a) := fget_fput_same hS n _
    have hM : refM (fput S n (A ++ B, a)) n = 0 := refM_some hg1
    have hsy : fsyn n (fput S n (A ++ B, a)) = fput (fput S n (A ++ B, a)) n (A ++ B, (A ++ B).length) := by unfold fsyn; rw [hg1]
    simp only [hM]
    rcases beg_two room f1 (fput S n (A ++ B, a)) (fsyn n) k3 with ⟨j1, j2, f2, j3, j4, j5⟩ | ⟨j1, j2, j3⟩
    · rw [j1, j5, hsy]
      exact ⟨0, _, rfl, rfl, rise_fput hS1 _ _, fun m hm => by
        show fget (fput (fput S n (A ++ B, a)) n (A ++ B, (A ++ B).length)) m = _
        rw [fget_fput_other hS1 _ hm, fget_fput_other hS _ hm], .inl ⟨rfl, rfl, j3, fun e => j4 (k4 e), fget_fput_same hS1 _ _⟩⟩
    · rw [j2, j3]
      exact ⟨12, _, rfl, rfl, hS1, fun m hm => fget_fput_other hS _ hm, .inr ⟨rfl, fun e => by have := k4 e; omega, rfl, .inr hg1⟩⟩
  · rw [k2, if_neg (by omega), k3]
    exact ⟨12, _, rfl, rfl, hS, fun _ _ => rfl, .inr ⟨rfl, fun e => by rw [show f = 0 from e] at k1; omega, rfl, .inl hg⟩⟩
end

abbrev encB (l : Lg) : List UInt8 := (encL l).data.toList
theorem encB_len (l : Lg) : (encB l).length = (encL l).size := Wir.size_list _
theorem rt_ep {ep : Int} (h : epOk ep = true) : RtL ⟨ep, []⟩ := ⟨h, by simp, fun i h => by simp at h⟩
theorem enc_pr {ep : Int} (h : epOk ep = true) : (encL ⟨ep, []⟩).size ≤ 24 := by simpa using encL_size (rt_ep h)
theorem enc_lg {l : Lg} (h : RtL l) : (encL l).size ≤ 24 + l.es.length * 624 := encL_size h

/-- All but the log: the promise, what may be left of new files. -/
structure Fil (N : Nat) (S : FS) (p : Int) : Prop where
  rise : Rise S
  keys : Keys S
  pr : (p = 0 ∧ fget S prL = none) ∨ (epR p = true ∧ fget S prL = some (encB ⟨p, []⟩, (encB ⟨p, []⟩).length))
  np : flen (fget S (nwN prL)) ≤ 24
  nl : flen (fget S (nwN lgL)) ≤ N
theorem Fil.pl {N : Nat} {S : FS} {p : Int} (h : Fil N S p) : flen (fget S prL) ≤ 24 := by
  rcases h.pr with ⟨_, h⟩ | ⟨h1, h⟩
  · rw [h]; exact Nat.zero_le _
  · rw [h]
    show (encB ⟨p, []⟩).length ≤ 24
    rw [encB_len]
    exact enc_pr (epR_ok h1)
theorem Fil.tot {N : Nat} {S : FS} {p : Int} (h : Fil N S p) : tot S = flen (fget S lgL) + flen (fget S prL) + flen (fget S (nwN lgL)) + flen (fget S (nwN prL)) ∧ S.length ≤ 4 := tot_four h.rise h.keys
theorem keys_of {S S' : FS} (hR : Rise S') (hK : Keys S) (h : ∀ m, m ≠ lgL → m ≠ prL → m ≠ nwN lgL → m ≠ nwN prL → fget S' m = fget S m) : Keys S' := by
  intro q hq
  by_cases h1 : q.1 = lgL
  · exact .inl h1
  · by_cases h2 : q.1 = prL
    · exact .inr (.inl h2)
    · by_cases h3 : q.1 = nwN lgL
      · exact .inr (.inr (.inl h3))
      · by_cases h4 : q.1 = nwN prL
        · exact .inr (.inr (.inr h4))
        · have h5 : fget S' q.1 = some q.2 := mem_fget hR hq
          rw [h q.1 h1 h2 h3 h4] at h5
          exact hK _ (fget_mem h5)
/-- The power is on. -/
structure Onn (room : Int) (ds ds' : DS) : Prop where
  room : ds'.room = room
  up : ds'.down = false
  fu : 0 ≤ ds'.fuse
  f0 : ds.fuse = 0 → ds'.fuse = 0
/-- The power has gone. -/
structure Off (room : Int) (ds ds' : DS) : Prop where
  room : ds'.room = room
  down : ds'.down = true
  f0 : ds.fuse ≠ 0
/-- It is on. -/
structure Run (room : Int) (ds : DS) : Prop where
  room : ds.room = room
  up : ds.down = false
  fu : 0 ≤ ds.fuse

section
variable {N : Nat} {room : Int} {ds : DS} {p : Int}
theorem sto_pr (hR : Run room ds) (h : Fil N ds.S p) {ep : Int} (he : epR ep = true) (hr : ((flen (fget ds.S lgL) + 24 + N + 24 : Nat) : Int) ≤ room) :
    ∃ e ds', stoR ds prN (encL ⟨ep, []⟩) = (e, ds') ∧ ((e = 0 ∧ Onn room ds ds' ∧ Fil N ds'.S ep ∧ fget ds'.S lgL = fget ds.S lgL) ∨ (e = 12 ∧ Off room ds ds' ∧ Fil N ds'.S p ∧ fget ds'.S lgL = fget ds.S lgL)) := by
  obtain ⟨room', f, dn, S⟩ := ds
  obtain ⟨r1, r2, r3⟩ := hR
  simp only at r1 r2 r3 h hr ⊢
  subst r1 r2
  have hz := enc_pr (epR_ok he)
  obtain ⟨t1, t2⟩ := h.tot
  have t3 := tot_fdel h.rise (nwN prL)
  have t4 := h.pl
  have t5 := h.nl
  obtain ⟨n1, n2, n3, n4, n5⟩ := four_ne
  obtain ⟨e, ds', hq, hSto⟩ := sto_gen (room := room') (f := f) (S := S) (s := prN) (b := encL ⟨ep, []⟩) h.rise r3 pr_ok (by omega) (by omega) (by
    have : tot (fdel S (nwN prN.data.toList)) + (encL ⟨ep, []⟩).size ≤ flen (fget S lgL) + 24 + N + 24 := by
      show tot (fdel S (nwN prL)) + _ ≤ _
      omega
    omega)
  refine ⟨e, ds', hq, ?_⟩
  rcases hSto.ways with ⟨rfl, w1, w2, w3, w4, w5, w6, w7⟩ | ⟨rfl, w1, w2, w3⟩
  · refine .inl ⟨rfl, ⟨hSto.room, w1, w2, w3⟩, ⟨w4, keys_of w4 h.keys (fun m _ h2 _ h4 => w7 m h2 h4), .inr ⟨he, w5⟩, by rw [w6]; exact Nat.zero_le _, ?_⟩, w7 _ lg_pr n2⟩
    rw [w7 _ (fun e => n3 e.symm) n5]
    exact h.nl
  · refine .inr ⟨rfl, ⟨hSto.room, w2, w1⟩, ⟨w3.rise, keys_of w3.rise h.keys (fun m _ _ _ h4 => w3.rest m h4), ?_, ?_, ?_⟩, w3.rest _ n2⟩
    · rw [w3.rest _ n4]; exact h.pr
    · rcases w3.new with g | g | ⟨k, _, g⟩
      · rw [g]; exact h.np
      · rw [g]; exact Nat.zero_le _
      · rw [g]
        show (encB ⟨ep, []⟩).length ≤ 24
        rw [encB_len]; exact hz
    · rw [w3.rest _ n5]; exact h.nl

theorem sto_lg (hR : Run room ds) (h : Fil N ds.S p) {l : Lg} (hl : RtL l) (hr : ((flen (fget ds.S lgL) + 48 + (encL l).size : Nat) : Int) ≤ room) (hN : ds.fuse ≠ 0 → (encL l).size ≤ N) :
    ∃ e ds', stoR ds lgN (encL l) = (e, ds') ∧ ((e = 0 ∧ Onn room ds ds' ∧ Fil N ds'.S p ∧ fget ds'.S lgL = some (encB l, (encB l).length)) ∨ (e = 12 ∧ Off room ds ds' ∧ Fil N ds'.S p ∧ fget ds'.S lgL = fget ds.S lgL)) := by
  obtain ⟨room', f, dn, S⟩ := ds
  obtain ⟨r1, r2, r3⟩ := hR
  simp only at r1 r2 r3 h hr hN ⊢
  subst r1 r2
  have hz := enc_bound hl
  obtain ⟨t1, t2⟩ := h.tot
  have t3 := tot_fdel h.rise (nwN lgL)
  have t4 := h.pl
  have t5 := h.np
  obtain ⟨n1, n2, n3, n4, n5⟩ := four_ne
  obtain ⟨e, ds', hq, hSto⟩ := sto_gen (room := room') (f := f) (S := S) (s := lgN) (b := encL l) h.rise r3 lg_ok (by omega) (by omega) (by
    have : tot (fdel S (nwN lgN.data.toList)) + (encL l).size ≤ flen (fget S lgL) + 48 + (encL l).size := by
      show tot (fdel S (nwN lgL)) + _ ≤ _
      omega
    omega)
  refine ⟨e, ds', hq, ?_⟩
  rcases hSto.ways with ⟨rfl, w1, w2, w3, w4, w5, w6, w7⟩ | ⟨rfl, w1, w2, w3⟩
  · refine .inl ⟨rfl, ⟨hSto.room, w1, w2, w3⟩, ⟨w4, keys_of w4 h.keys (fun m h1 _ h3 _ => w7 m h1 h3), ?_, ?_, by rw [w6]; exact Nat.zero_le _⟩, w5⟩
    · rw [w7 _ (fun e => lg_pr e.symm) n3]; exact h.pr
    · rw [w7 _ (fun e => n2 e.symm) (fun e => n5 e.symm)]; exact h.np
  · refine .inr ⟨rfl, ⟨hSto.room, w2, w1⟩, ⟨w3.rise, keys_of w3.rise h.keys (fun m _ _ h3 _ => w3.rest m h3), ?_, ?_, ?_⟩, w3.rest _ n1⟩
    · rw [w3.rest _ n3]; exact h.pr
    · rw [w3.rest _ (fun e => n5 e.symm)]; exact h.np
    · rcases w3.new with g | g | ⟨k, _, g⟩
      · rw [g]; exact h.nl
      · rw [g]; exact Nat.zero_le _
      · rw [g]
        show (encB l).length ≤ N
        rw [encB_len]; exact hN w1

theorem add_lg (hR : Run room ds) (h : Fil N ds.S p) {l : Lg} {x : En} (hl : RtL l) (hx : (encE x).size ≤ 624) (hg : fget ds.S lgL = some (encB l, (encB l).length)) (hr : ((flen (fget ds.S lgL) + 48 + N + (encE x).size : Nat) : Int) ≤ room) :
    ∃ e ds', addR ds lgN (encE x) = (e, ds') ∧ ((e = 0 ∧ Onn room ds ds' ∧ Fil N ds'.S p ∧ fget ds'.S lgL = some (encB l ++ (encE x).data.toList, (encB l ++ (encE x).data.toList).length)) ∨ (e = 12 ∧ Off room ds ds' ∧ Fil N ds'.S p ∧ (fget ds'.S lgL = some (encB l, (encB l).length) ∨ fget ds'.S lgL = some (encB l ++ (encE x).data.toList, (encB l).length)))) := by
  obtain ⟨room', f, dn, S⟩ := ds
  obtain ⟨r1, r2, r3⟩ := hR
  simp only at r1 r2 r3 h hr hg ⊢
  subst r1 r2
  have hz := enc_bound hl
  have hzl := encB_len l
  obtain ⟨t1, t2⟩ := h.tot
  have t4 := h.pl
  have t5 := h.np
  have t6 := h.nl
  obtain ⟨n1, n2, n3, n4, n5⟩ := four_ne
  obtain ⟨e, ds', hq, hAdr⟩ := add_gen (room := room') (f := f) (S := S) (s := lgN) (b := encE x) (A := encB l) (a := (encB l).length) h.rise r3 lg_ok hg (by omega) (by omega)
  refine ⟨e, ds', hq, ?_⟩
  have hF : Fil N ds'.S p := ⟨hAdr.rise, keys_of hAdr.rise h.keys (fun m h1 _ _ _ => hAdr.rest m h1), by rw [hAdr.rest _ (fun e => lg_pr e.symm)]; exact h.pr, by rw [hAdr.rest _ (fun e => n2 e.symm)]; exact h.np, by rw [hAdr.rest _ (fun e => n1 e.symm)]; exact h.nl⟩
  rcases hAdr.ways with ⟨rfl, w1, w2, w3, w4⟩ | ⟨rfl, w1, w2, w3⟩
  · exact .inl ⟨rfl, ⟨hAdr.room, w1, w2, w3⟩, hF, w4⟩
  · exact .inr ⟨rfl, ⟨hAdr.room, w2, w1⟩, hF, w3⟩
end

end Go.Proofs.YtfmhmokbbkliaaaGreat.Jrn
