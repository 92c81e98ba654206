/- Plain: what was written is read back. -/
import Derived.Test.YtokldcifhjkmnaaLogI
namespace Go.Proofs.Ytokldcifhjkmnaa.Lgg
open Go.Proofs.Ytokldcifhjkmnaa Go.Proofs.Ytokldcifhjkmnaa.Wir Go.Proofs.Ytokldcifhjkmnaa.Smm
open Go.WideShapes (bytes_inj)
set_option linter.unusedVariables false

theorem mk_list (s : ByteArray) : (⟨s.data.toList.toArray⟩ : ByteArray) = s := by cases s; simp
theorem ext_num (n : Int) (d : ByteArray) : (numT n ++ d).extract (numB n).length (numT n ++ d).size = d := ext_behind (numT n) d _ (by unfold numT; rw [mk_size])
theorem takeP_back (n : Int) (h0 : -9223372036854775808 ≤ n) (h1 : n ≤ 9223372036854775807) (d rest : ByteArray) (hd : d.size ≤ 3000) : takeP (sealB (numT n ++ d) ++ rest) = some (n, d, rest) := by
  have hz := numT_size h0 h1
  unfold takeP
  rw [open_back _ _ (by rw [app_size]; omega)]
  simp only
  have e : (numT n ++ d).data.toList = numB n ++ d.data.toList := by rw [app_list]; rfl
  rw [e, take_num n _ h0 h1]
  simp only
  rw [unzig_zig, ext_num]
theorem epochP_back (n : Int) (h : epOk n = true) (rest : ByteArray) : epochP (sealB (numT n) ++ rest) = some (n, rest) := by
  have hn := ep_in h
  have e := takeP_back n (by omega) (by omega) ⟨#[]⟩ rest (by show 0 ≤ 3000; omega)
  rw [app_empty] at e
  unfold epochP
  rw [e]
  simp only
  rw [if_pos ⟨h, rfl⟩]
theorem entryP_back (x : En) (i : Nat) (hi : i ≤ 300) (h : enOk i x) (rest : ByteArray) : entryP (encE x ++ rest) ((i + 1 : Nat) : Int) = some (x.d, rest) := by
  obtain ⟨h1, h2⟩ := h
  unfold entryP encE
  rw [takeP_back x.tx (by omega) (by omega) x.d rest (by omega)]
  simp only
  rw [if_pos ⟨h1, h2⟩]
theorem takeP_none {b : ByteArray} {T R : ByteArray} {E : Nat} (h : openT b = (T, R, E)) (hE : E ≠ 0) : takeP b = none := by
  unfold takeP
  rw [h]
  cases E with
  | zero => exact absurd rfl hE
  | succ E => rfl
theorem entryP_none {b : ByteArray} {i : Int} (h : takeP b = none) : entryP b i = none := by unfold entryP; rw [h]
theorem goL_stop {b : ByteArray} (h : ∀ i, entryP b i = none) : ∀ f es, goL f es b = (es, b)
  | 0, es => rfl
  | f + 1, es => by unfold goL; rw [h]
/-- Entries that were written are read, one by one. -/
theorem goL_back : ∀ (xs es0 : List En) (f : Nat) (rest : ByteArray), es0.length + xs.length ≤ 300 → xs.length ≤ f → (∀ i (h : i < xs.length), enOk (es0.length + i) xs[i]) → goL f es0 (encEs xs ++ rest) = goL (f - xs.length) (es0 ++ xs) rest
  | [], es0, f, rest, _, _, _ => by rw [show encEs [] = (⟨#[]⟩ : ByteArray) from rfl, empty_app]; simp
  | x :: xs, es0, f, rest, hl, hf, h => by
    obtain ⟨f', rfl⟩ : ∃ f', f = f' + 1 := ⟨f - 1, by simp at hf; omega⟩
    have h0 := h 0 (by simp)
    simp only [Nat.add_zero, List.getElem_cons_zero] at h0
    simp at hl hf
    have e : encEs (x :: xs) ++ rest = encE x ++ (encEs xs ++ rest) := by show (encE x ++ encEs xs) ++ rest = _; rw [app_assoc]
    rw [e]
    conv => lhs; unfold goL
    rw [entryP_back x es0.length (by omega) h0]
    simp only
    have hx : (⟨((es0.length + 1 : Nat) : Int), x.d⟩ : En) = x := by cases x; simp only [En.mk.injEq, and_true]; exact h0.1.symm
    rw [hx, goL_back xs (es0 ++ [x]) f' rest (by simp; omega) (by omega) (fun i hi => by
      have := h (i + 1) (by simp; omega)
      simp only [List.getElem_cons_succ] at this
      rw [List.length_append, List.length_singleton, Nat.add_assoc, Nat.add_comm 1 i]
      exact this), List.append_assoc]
    congr 1
    simp
theorem parse_back {l : Lg} (h : RtL l) (rest : ByteArray) : parseL (encL l ++ rest) = some (⟨l.ep, (goL (300 - l.es.length) l.es rest).1⟩, (goL (300 - l.es.length) l.es rest).2) := by
  unfold parseL encL
  rw [app_assoc, epochP_back l.ep h.1]
  simp only
  have e := goL_back l.es [] 300 rest (by simpa using h.2.1) h.2.1 (fun i hi => by simpa using h.2.2 i hi)
  rw [List.nil_append] at e
  rw [e]
theorem open_empty : openT ⟨#[]⟩ = (⟨#[]⟩, ⟨#[]⟩, 2) := by
  have h := open_cut ⟨#[]⟩ 0 (by rw [sealB_size]; omega)
  have e : (sealB ⟨#[]⟩).extract 0 0 = (⟨#[]⟩ : ByteArray) := bytes_inj (by rw [cut_list, List.take_zero])
  rw [e] at h
  exact h
theorem entry_empty (i : Int) : entryP ⟨#[]⟩ i = none := entryP_none (takeP_none open_empty (by omega))
theorem parse_whole {l : Lg} (h : RtL l) : parseL (encL l) = some (l, ⟨#[]⟩) := by
  have e := parse_back h ⟨#[]⟩
  rw [app_empty, goL_stop entry_empty] at e
  exact e
/-- A part of an entry behind it. -/
theorem parse_torn {l : Lg} (h : RtL l) (x : En) (k : Nat) (hk : k < (encE x).size) : parseL (encL l ++ (encE x).extract 0 k) = some (l, (encE x).extract 0 k) := by
  have hN : ∀ i, entryP ((encE x).extract 0 k) i = none := fun i => entryP_none (takeP_none (open_cut (numT x.tx ++ x.d) k hk) (by omega))
  rw [parse_back h, goL_stop hN]
theorem encL_snoc (ep : Int) (es : List En) (x : En) : encL ⟨ep, es ++ [x]⟩ = encL ⟨ep, es⟩ ++ encE x := by
  unfold encL
  simp only
  rw [encEs_app, encEs_one, app_assoc]
theorem RtL.snoc {ep : Int} {es : List En} (h : RtL ⟨ep, es⟩) (hl : es.length < 300) (d : ByteArray) (hd : d.size ≤ 600) : RtL ⟨ep, es ++ [⟨((es.length + 1 : Nat) : Int), d⟩]⟩ := by
  refine ⟨h.1, by simp; omega, fun i hi => ?_⟩
  simp only at hi ⊢
  rcases Nat.lt_or_ge i es.length with h1 | h1
  · rw [List.getElem_append_left h1]; exact h.2.2 i h1
  · simp at hi
    obtain rfl : i = es.length := by omega
    rw [List.getElem_append_right (Nat.le_refl _)]
    simp only [Nat.sub_self, List.getElem_cons_zero]
    exact ⟨rfl, hd⟩
theorem encL_pos (l : Lg) : 0 < (encL l).size := by
  unfold encL
  rw [app_size, sealB_size]; omega

end Go.Proofs.Ytokldcifhjkmnaa.Lgg
