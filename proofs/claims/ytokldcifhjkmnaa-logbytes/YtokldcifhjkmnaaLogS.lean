/- Plain: what Store and Add do with a disk of one file, whenever the power goes. -/
import Derived.Test.YtokldcifhjkmnaaLogP
namespace Go.Proofs.Ytokldcifhjkmnaa.Lgg
open Go.RowKit Go.Proofs.Ytokldcifhjkmnaa
set_option linter.unusedVariables false

def dec1 (f : Int) : Int := if f = 0 then 0 else f - 1
theorem beg_ok (room f : Int) (S : FS) (F : FS → FS) (h : f = 0 ∨ 2 ≤ f) : begE ⟨room, f, false, S⟩ 0 = 0 ∧ doD ⟨room, f, false, S⟩ 0 F = ⟨room, dec1 f, false, F S⟩ := by
  rcases h with rfl | h
  · unfold doD begE begD dec1; simp
  · have h0 : ¬ f = 0 := by omega
    have h1 : ¬ f = 1 := by omega
    unfold doD begE begD dec1; simp [h0, h1]
theorem beg_off (room : Int) (S : FS) (F : FS → FS) : begE ⟨room, 1, false, S⟩ 0 = 12 ∧ doD ⟨room, 1, false, S⟩ 0 F = ⟨room, 0, true, S⟩ := by unfold doD begE begD; simp
theorem beg_no (room f : Int) (S : FS) (F : FS → FS) {e : Int} (he : e ≠ 0) : begE ⟨room, f, false, S⟩ e = e ∧ doD ⟨room, f, false, S⟩ e F = ⟨room, f, false, S⟩ := by unfold doD begE begD; simp [he]

theorem new_list (s : ByteArray) : (newN s).data.toList = s.data.toList ++ [46, 110, 101, 119] := by unfold newN; rw [Wir.app_list]
theorem before_app : ∀ (l r : List UInt8), r ≠ [] → bytesBefore l (l ++ r) = true
  | [], [], h => absurd rfl h
  | [], x :: r, _ => rfl
  | x :: l, r, h => by
    have := before_app l r h
    simp [bytesBefore, this]
theorem app_before : ∀ (l r : List UInt8), bytesBefore (l ++ r) l = false
  | [], [] => rfl
  | [], x :: r => rfl
  | x :: l, r => by
    have := app_before l r
    simp [bytesBefore, this]
theorem app_ne (l : List UInt8) : l ≠ l ++ [46, 110, 101, 119] := fun e => by
  have := congrArg List.length e
  simp at this

section
variable {n : List UInt8} {A B E : List UInt8} {a b : Nat} {room f : Int}
theorem g_new : fget [(n, A, a)] (n ++ [46, 110, 101, 119]) = none := by rw [fget_cons, if_neg (app_ne n)]; rfl
theorem s_app0 : fapp (n ++ [46, 110, 101, 119]) B [] = [((n ++ [46, 110, 101, 119]), B, 0)] := rfl
theorem s_app1 : fapp (n ++ [46, 110, 101, 119]) B [(n, A, a)] = [(n, A, a), ((n ++ [46, 110, 101, 119]), B, 0)] := by
  unfold fapp fput
  rw [g_new]
  simp only
  rw [fdel_of_none g_new]
  unfold fins
  rw [app_before]
  rfl
theorem s_del2 : fdel [(n, A, a), ((n ++ [46, 110, 101, 119]), B, b)] (n ++ [46, 110, 101, 119]) = [(n, A, a)] := by
  rw [fdel_cons, if_neg (app_ne n), fdel_cons, if_pos rfl]; rfl
theorem s_get2 : fget [(n, A, a), ((n ++ [46, 110, 101, 119]), B, b)] (n ++ [46, 110, 101, 119]) = some (B, b) := by
  rw [fget_cons, if_neg (app_ne n), fget_cons, if_pos rfl]
theorem s_syn2 : fsyn (n ++ [46, 110, 101, 119]) [(n, A, a), ((n ++ [46, 110, 101, 119]), B, b)] = [(n, A, a), ((n ++ [46, 110, 101, 119]), B, B.length)] := by
  unfold fsyn
  rw [s_get2]
  simp only
  unfold fput
  rw [s_del2]
  unfold fins
  rw [app_before]
  rfl
theorem s_ren2 : fren (n ++ [46, 110, 101, 119]) n [(n, A, a), ((n ++ [46, 110, 101, 119]), B, b)] = [(n, B, b)] := by
  unfold fren
  rw [s_get2]
  simp only
  unfold fput
  rw [s_del2, fdel_cons, if_pos rfl]
  rfl
theorem g_one {m : List UInt8} : fget [(m, B, b)] m = some (B, b) := by rw [fget_cons, if_pos rfl]
theorem s_syn1 {m : List UInt8} : fsyn m [(m, B, b)] = [(m, B, B.length)] := by
  unfold fsyn
  rw [g_one]
  simp only
  unfold fput
  rw [fdel_cons, if_pos rfl]
  rfl
theorem s_ren1 : fren (n ++ [46, 110, 101, 119]) n [((n ++ [46, 110, 101, 119]), B, b)] = [(n, B, b)] := by
  unfold fren
  rw [g_one]
  simp only
  unfold fput
  rw [fdel_cons, if_pos rfl]
  rfl
theorem s_add : fapp n E [(n, A, a)] = [(n, A ++ E, a)] := by
  unfold fapp
  rw [g_one]
  simp only
  unfold fput
  rw [fdel_cons, if_pos rfl]
  rfl

theorem del_no {S : FS} (h : fget S (n ++ [46, 110, 101, 119]) = none) : delR ⟨room, f, false, S⟩ (n ++ [46, 110, 101, 119]) = (0, ⟨room, f, false, S⟩) := by
  have e : rdE ⟨room, f, false, S⟩ (n ++ [46, 110, 101, 119]) = 5 := by rw [rdE_eq _ rfl]; exact refM_none h
  unfold delR
  rw [if_pos e]
theorem nm_new (h : 1 ≤ n.length ∧ n.length ≤ 16) : nameOk (n ++ [46, 110, 101, 119]) = true ∧ nameOk n = true := by unfold nameOk; simp; omega
theorem ren_ok {S : FS} {F : List UInt8 × Nat} (h : 1 ≤ n.length ∧ n.length ≤ 16) (hg : fget S (n ++ [46, 110, 101, 119]) = some F) : refR S (n ++ [46, 110, 101, 119]) n = 0 := by
  unfold refR
  rw [(nm_new h).2, if_pos rfl]
  exact refM_some hg

/-- Append and sync: all of it, or one of the two is the last. -/
theorem aps_ok {m : List UInt8} {S S1 S2 : FS} (hA : refA ⟨room, f, false, S⟩ m B = 0) (h1 : fapp m B S = S1) {F : List UInt8 × Nat} (hg : fget S1 m = some F) (h2 : fsyn m S1 = S2) (hf : f = 0 ∨ 3 ≤ f) : apsR ⟨room, f, false, S⟩ m B = (0, ⟨room, dec1 (dec1 f), false, S2⟩) := by
  obtain ⟨k1, k2⟩ := beg_ok room f S (fapp m B) (by omega)
  obtain ⟨k3, k4⟩ := beg_ok room (dec1 f) S1 (fsyn m) (by unfold dec1; split <;> omega)
  unfold apsR
  rw [hA, if_pos k1, k2, h1]
  simp only
  rw [refM_some hg, k3, k4, h2]
theorem aps_two {m : List UInt8} {S S1 : FS} (hA : refA ⟨room, 2, false, S⟩ m B = 0) (h1 : fapp m B S = S1) {F : List UInt8 × Nat} (hg : fget S1 m = some F) : apsR ⟨room, 2, false, S⟩ m B = (12, ⟨room, 0, true, S1⟩) := by
  obtain ⟨k1, k2⟩ := beg_ok room 2 S (fapp m B) (by omega)
  obtain ⟨k3, k4⟩ := beg_off room S1 (fsyn m)
  unfold apsR
  rw [hA, if_pos k1, k2, h1]
  simp only
  have e : dec1 2 = 1 := rfl
  rw [refM_some hg, e, k3, k4]
theorem aps_one {m : List UInt8} {S : FS} (hA : refA ⟨room, 1, false, S⟩ m B = 0) : apsR ⟨room, 1, false, S⟩ m B = (12, ⟨room, 0, true, S⟩) := by
  obtain ⟨k1, k2⟩ := beg_off room S (fapp m B)
  unfold apsR
  rw [hA, k1, if_neg (by omega), k2]
theorem aps_no {m : List UInt8} {S : FS} {e : Int} (hA : refA ⟨room, f, false, S⟩ m B = e) (he : e ≠ 0) : apsR ⟨room, f, false, S⟩ m B = (e, ⟨room, f, false, S⟩) := by
  obtain ⟨k1, k2⟩ := beg_no room f S (fapp m B) he
  unfold apsR
  rw [hA, k1, if_neg he, k2]
end

section
variable {s : ByteArray} {b : ByteArray} {A : List UInt8} {a : Nat} {room f : Int}
/-- On a disk without files. -/
theorem sto_new (hs : nmOk s = true) (hb : b.size ≤ 400000) (hr : (b.size : Int) ≤ room) : stoR ⟨room, 0, false, []⟩ s b = (0, ⟨room, 0, false, [(s.data.toList, b.data.toList, b.size)]⟩) := by
  have hn := (mk_nm s).1 hs
  have hl : s.data.toList.length = s.size := Wir.size_list s
  have hl2 : b.data.toList.length = b.size := Wir.size_list b
  have hn2 : 1 ≤ s.data.toList.length ∧ s.data.toList.length ≤ 16 := by omega
  unfold stoR
  rw [new_list, del_no rfl]
  simp only
  have e := aps_ok (room := room) (f := 0) (B := b.data.toList) (m := s.data.toList ++ [46, 110, 101, 119]) (S := []) (refA_ok (nm_new hn2).1 (by show 0 + _ ≤ _; omega) (.inr (by simp)) (by rw [hl2]; show ((0 + b.size : Nat) : Int) ≤ room; omega)) s_app0 g_one s_syn1 (.inl rfl)
  rw [if_pos trivial, e]
  simp only
  rw [if_pos trivial, ren_ok hn2 g_one]
  obtain ⟨k3, k4⟩ := beg_ok room (dec1 (dec1 0)) [(s.data.toList ++ [46, 110, 101, 119], b.data.toList, b.data.toList.length)] (fren (s.data.toList ++ [46, 110, 101, 119]) s.data.toList) (.inl rfl)
  rw [k3, k4, s_ren1, hl2]
  rfl
theorem ref_new (hs : nmOk s = true) (hb : b.size ≤ 400000) (hr : ((A.length + b.size : Nat) : Int) ≤ room) : refA ⟨room, f, false, [(s.data.toList, A, a)]⟩ (s.data.toList ++ [46, 110, 101, 119]) b.data.toList = 0 := by
  have hn := (mk_nm s).1 hs
  have hl : s.data.toList.length = s.size := Wir.size_list s
  have hl2 : b.data.toList.length = b.size := Wir.size_list b
  refine refA_ok (nm_new (by omega)).1 (by rw [g_new]; show 0 + _ ≤ _; omega) (.inr (by simp)) ?_
  rw [tot_cons, hl2]
  show ((A.length + 0 + b.size : Nat) : Int) ≤ room
  omega
/-- In the place of another one: with no fuse, or one that lasts. -/
theorem sto_on (hs : nmOk s = true) (hb : b.size ≤ 400000) (hr : ((A.length + b.size : Nat) : Int) ≤ room) (hf : f = 0 ∨ 4 ≤ f) : ∃ f', stoR ⟨room, f, false, [(s.data.toList, A, a)]⟩ s b = (0, ⟨room, f', false, [(s.data.toList, b.data.toList, b.size)]⟩) := by
  have hn := (mk_nm s).1 hs
  have hl : s.data.toList.length = s.size := Wir.size_list s
  have hl2 : b.data.toList.length = b.size := Wir.size_list b
  unfold stoR
  rw [new_list, del_no g_new]
  simp only
  rw [if_pos trivial, aps_ok (ref_new hs hb hr) s_app1 s_get2 s_syn2 (by omega)]
  simp only
  rw [if_pos trivial, ren_ok (by omega) s_get2]
  obtain ⟨k3, k4⟩ := beg_ok room (dec1 (dec1 f)) [(s.data.toList, A, a), (s.data.toList ++ [46, 110, 101, 119], b.data.toList, b.data.toList.length)] (fren (s.data.toList ++ [46, 110, 101, 119]) s.data.toList) (by unfold dec1; rcases hf with rfl | hf <;> simp <;> omega)
  rw [k3, k4, s_ren2, hl2]
  exact ⟨_, rfl⟩
theorem sto_one (hs : nmOk s = true) (hb : b.size ≤ 400000) (hr : ((A.length + b.size : Nat) : Int) ≤ room) : stoR ⟨room, 1, false, [(s.data.toList, A, a)]⟩ s b = (12, ⟨room, 0, true, [(s.data.toList, A, a)]⟩) := by
  unfold stoR
  rw [new_list, del_no g_new]
  simp only
  rw [if_pos trivial, aps_one (ref_new hs hb hr)]
  simp only
  rw [if_neg (by omega)]
theorem sto_two (hs : nmOk s = true) (hb : b.size ≤ 400000) (hr : ((A.length + b.size : Nat) : Int) ≤ room) : stoR ⟨room, 2, false, [(s.data.toList, A, a)]⟩ s b = (12, ⟨room, 0, true, [(s.data.toList, A, a), (s.data.toList ++ [46, 110, 101, 119], b.data.toList, 0)]⟩) := by
  unfold stoR
  rw [new_list, del_no g_new]
  simp only
  rw [if_pos trivial, aps_two (ref_new hs hb hr) s_app1 s_get2]
  simp only
  rw [if_neg (by omega)]
theorem sto_three (hs : nmOk s = true) (hb : b.size ≤ 400000) (hr : ((A.length + b.size : Nat) : Int) ≤ room) : stoR ⟨room, 3, false, [(s.data.toList, A, a)]⟩ s b = (12, ⟨room, 0, true, [(s.data.toList, A, a), (s.data.toList ++ [46, 110, 101, 119], b.data.toList, b.data.toList.length)]⟩) := by
  have hn := (mk_nm s).1 hs
  have hl : s.data.toList.length = s.size := Wir.size_list s
  unfold stoR
  rw [new_list, del_no g_new]
  simp only
  rw [if_pos trivial, aps_ok (ref_new hs hb hr) s_app1 s_get2 s_syn2 (by omega)]
  simp only
  rw [if_pos trivial, ren_ok (by omega) s_get2]
  have e : dec1 (dec1 3) = 1 := rfl
  obtain ⟨k3, k4⟩ := beg_off room [(s.data.toList, A, a), (s.data.toList ++ [46, 110, 101, 119], b.data.toList, b.data.toList.length)] (fren (s.data.toList ++ [46, 110, 101, 119]) s.data.toList)
  rw [e, k3, k4]
/-- Without room. -/
theorem sto_full (hs : nmOk s = true) (hb : b.size ≤ 400000) (hr : room < ((A.length + b.size : Nat) : Int)) : stoR ⟨room, 0, false, [(s.data.toList, A, a)]⟩ s b = (8, ⟨room, 0, false, [(s.data.toList, A, a)]⟩) := by
  have hn := (mk_nm s).1 hs
  have hl : s.data.toList.length = s.size := Wir.size_list s
  have hl2 : b.data.toList.length = b.size := Wir.size_list b
  have e : refA ⟨room, 0, false, [(s.data.toList, A, a)]⟩ (s.data.toList ++ [46, 110, 101, 119]) b.data.toList = 8 := by
    refine refA_full (nm_new (by omega)).1 (by rw [g_new]; show 0 + _ ≤ _; omega) (.inr (by simp)) ?_
    rw [tot_cons, hl2]
    show room < ((A.length + 0 + b.size : Nat) : Int)
    omega
  unfold stoR
  rw [new_list, del_no g_new]
  simp only
  rw [if_pos trivial, aps_no e (by omega)]
  simp only
  rw [if_neg (by omega)]

theorem ref_add (hs : nmOk s = true) (hb : A.length + b.size ≤ 400000) (hr : ((A.length + b.size : Nat) : Int) ≤ room) : refA ⟨room, f, false, [(s.data.toList, A, a)]⟩ s.data.toList b.data.toList = 0 := by
  have hn := (mk_nm s).1 hs
  have hl : s.data.toList.length = s.size := Wir.size_list s
  have hl2 : b.data.toList.length = b.size := Wir.size_list b
  refine refA_ok (nm_new (by omega)).2 (by rw [g_one, hl2]; exact hb) (.inl (by rw [g_one]; rfl)) ?_
  rw [tot_cons, hl2]
  show ((A.length + 0 + b.size : Nat) : Int) ≤ room
  omega
theorem rd_one : rdE ⟨room, f, false, [(s.data.toList, A, a)]⟩ s.data.toList = 0 := by rw [rdE_eq _ rfl]; exact refM_some g_one
theorem add_on (hs : nmOk s = true) (hb : A.length + b.size ≤ 400000) (hr : ((A.length + b.size : Nat) : Int) ≤ room) (hf : f = 0 ∨ 3 ≤ f) : addR ⟨room, f, false, [(s.data.toList, A, a)]⟩ s b = (0, ⟨room, dec1 (dec1 f), false, [(s.data.toList, A ++ b.data.toList, (A ++ b.data.toList).length)]⟩) := by
  unfold addR
  rw [if_pos rd_one, aps_ok (ref_add hs hb hr) s_add g_one s_syn1 hf]
theorem add_one (hs : nmOk s = true) (hb : A.length + b.size ≤ 400000) (hr : ((A.length + b.size : Nat) : Int) ≤ room) : addR ⟨room, 1, false, [(s.data.toList, A, a)]⟩ s b = (12, ⟨room, 0, true, [(s.data.toList, A, a)]⟩) := by
  unfold addR
  rw [if_pos rd_one, aps_one (ref_add hs hb hr)]
theorem add_two (hs : nmOk s = true) (hb : A.length + b.size ≤ 400000) (hr : ((A.length + b.size : Nat) : Int) ≤ room) : addR ⟨room, 2, false, [(s.data.toList, A, a)]⟩ s b = (12, ⟨room, 0, true, [(s.data.toList, A ++ b.data.toList, a)]⟩) := by
  unfold addR
  rw [if_pos rd_one, aps_two (ref_add hs hb hr) s_add g_one]

/-- Behind a crash. -/
theorem cut_all {A : List UInt8} (c : Int) : cutN (A, A.length) c = A.length := by unfold cutN; simp [Nat.mod_one]
theorem crash_head {n : List UInt8} {A : List UInt8} (hA : A ≠ []) (ks : List Int) (r : FS) : ∃ r', crashL ks ((n, A, A.length) :: r) = (n, A, A.length) :: r' := by
  have h0 : ¬ A.length = 0 := fun e => hA (List.length_eq_zero_iff.1 e)
  refine ⟨crashL ks.tail r, ?_⟩
  show (if cutN (A, A.length) (ks.headD 0) = 0 then [] else [(n, A.take (cutN (A, A.length) (ks.headD 0)), cutN (A, A.length) (ks.headD 0))]) ++ _ = _
  rw [cut_all, if_neg h0, List.take_length]
  rfl
theorem crash_part {n : List UInt8} {A E : List UInt8} (hA : A ≠ []) (ks : List Int) : ∃ k, k ≤ E.length ∧ crashL ks [(n, A ++ E, A.length)] = [(n, A ++ E.take k, A.length + k)] := by
  have h0 : ¬ A.length = 0 := fun e => hA (List.length_eq_zero_iff.1 e)
  have hc : cutN (A ++ E, A.length) (ks.headD 0) = A.length + keepN (ks.headD 0) % (E.length + 1) := by unfold cutN; simp
  have hk := Nat.mod_lt (keepN (ks.headD 0)) (show 0 < E.length + 1 by omega)
  refine ⟨keepN (ks.headD 0) % (E.length + 1), by omega, ?_⟩
  show (if cutN (A ++ E, A.length) (ks.headD 0) = 0 then [] else [(n, (A ++ E).take (cutN (A ++ E, A.length) (ks.headD 0)), cutN (A ++ E, A.length) (ks.headD 0))]) ++ crashL ks.tail [] = _
  rw [crashL_nil, hc, if_neg (by omega), List.take_length_add_append]
  rfl
theorem rd_head {n : List UInt8} {A : List UInt8} {r : FS} : rdE ⟨room, f, false, (n, A, a) :: r⟩ n = 0 ∧ rdT ⟨room, f, false, (n, A, a) :: r⟩ n = ⟨A.toArray⟩ := by
  have hg : fget ((n, A, a) :: r) n = some (A, a) := by rw [fget_cons, if_pos rfl]
  rw [rdE_eq _ rfl, rdT_eq _ rfl]
  refine ⟨refM_some hg, ?_⟩
  unfold fdat
  rw [hg]
end

end Go.Proofs.Ytokldcifhjkmnaa.Lgg
