/- Edits, their bytes, and how they are read, in plain words. No program in it. -/
import Derived.Test.YthogpaojdlfjcaaWireTextM
namespace Go.Proofs.Ythogpaojdlfjcaa.Edi
open Go.RowKit Go.Proofs.Ythogpaojdlfjcaa Go.Proofs.Ythogpaojdlfjcaa.Wir
open Go.WideShapes (bytes_inj)

/-- An edit: its kind, a path, another one, who asks, the number of that call, a number, lengths. -/
structure Ed where
  k : Int
  p : ByteArray
  t : ByteArray
  c : Int
  l : Int
  n : Int
  ls : List Int

def zeroE : Ed := ⟨0, ⟨#[]⟩, ⟨#[]⟩, 0, 0, 0, []⟩

/-- Is it from lo to hi? -/
def inB (lo n hi : Int) : Bool := decide (lo ≤ n ∧ n ≤ hi)
theorem inB_iff {lo n hi : Int} : inB lo n hi = true ↔ lo ≤ n ∧ n ≤ hi := by simp [inB]
theorem inB_yes {lo n hi : Int} (h1 : lo ≤ n) (h2 : n ≤ hi) : inB lo n hi = true := inB_iff.2 ⟨h1, h2⟩
theorem inB_no {lo n hi : Int} (h : n < lo ∨ hi < n) : inB lo n hi = false := by
  rw [Bool.eq_false_iff]; intro e; have := inB_iff.1 e; omega
def allB (lo hi : Int) (zs : List Int) : Bool := zs.all fun z => inB lo z hi

/-- What only some kinds have: bytes of To, the least N, the greatest N, how many Lengths. -/
def toM (k : Int) : Nat := if k = 4 then 120 else 0
def loN (k : Int) : Int := if k = 7 then -1 else 0
def hiN (k : Int) : Int := if k = 7 ∨ k = 8 ∨ k = 9 then 9007199254740991 else 0
def lenM (k : Int) : Nat := if k = 5 ∨ k = 6 then 8 else 0

structure Rt (e : Ed) : Prop where
  kind : inB 1 e.k 10 = true
  path : e.p.size ≤ 120
  to : e.t.size ≤ toM e.k
  client : inB 0 e.c 3 = true
  call : inB 0 e.l 9007199254740991 = true
  num : inB (loN e.k) e.n (hiN e.k) = true
  few : e.ls.length ≤ lenM e.k
  each : allB 0 9007199254740991 e.ls = true

theorem toM_le (k : Int) : toM k ≤ 120 := by unfold toM; split <;> omega
theorem lenM_le (k : Int) : lenM k ≤ 8 := by unfold lenM; split <;> omega
theorem hiN_le (k : Int) : hiN k ≤ 9007199254740991 := by unfold hiN; split <;> omega
theorem loN_ge (k : Int) : -1 ≤ loN k := by unfold loN; split <;> omega

/-- Does it fit into 64 bits? -/
structure Fit (e : Ed) : Prop where
  k0 : -9223372036854775808 ≤ e.k
  k1 : e.k ≤ 9223372036854775807
  p : e.p.size ≤ 4000
  t : e.t.size ≤ 4000
  c0 : -9223372036854775808 ≤ e.c
  c1 : e.c ≤ 9223372036854775807
  l0 : -9223372036854775808 ≤ e.l
  l1 : e.l ≤ 9223372036854775807
  n0 : -9223372036854775808 ≤ e.n
  n1 : e.n ≤ 9223372036854775807
  few : e.ls.length ≤ 8
  each : ∀ z ∈ e.ls, -9223372036854775808 ≤ z ∧ z ≤ 9223372036854775807

theorem Rt.fit {e : Ed} (h : Rt e) : Fit e := by
  have h1 := inB_iff.1 h.kind
  have h2 := inB_iff.1 h.client
  have h3 := inB_iff.1 h.call
  have h4 := inB_iff.1 h.num
  have h5 := h.path
  have h6 := h.to
  have h7 := h.few
  have h8 := toM_le e.k
  have h9 := lenM_le e.k
  have h10 := hiN_le e.k
  have h11 := loN_ge e.k
  refine ⟨by omega, by omega, by omega, by omega, by omega, by omega, by omega, by omega, by omega, by omega, by omega, fun z hz => ?_⟩
  have := List.all_eq_true.1 h.each z hz
  have := inB_iff.1 this
  omega

/-! ### their bytes -/
def numsB (zs : List Int) : List UInt8 := zs.flatMap numB
def encL (e : Ed) : List UInt8 := numB e.k ++ ((textB e.p).data.toList ++ ((textB e.t).data.toList ++ (numB e.c ++ (numB e.l ++ (numB e.n ++ (numB e.ls.length ++ numsB e.ls))))))
def encS (e : Ed) : ByteArray := ⟨(encL e).toArray⟩
theorem encS_list (e : Ed) : (encS e).data.toList = encL e := rfl

theorem numsB_len : ∀ (zs : List Int), (∀ z ∈ zs, -9223372036854775808 ≤ z ∧ z ≤ 9223372036854775807) → (numsB zs).length ≤ 10 * zs.length
  | [], _ => by simp [numsB]
  | z :: r, h => by
    have h1 := numsB_len r (fun x hx => h x (List.mem_cons_of_mem _ hx))
    have h2 := numB_len (h z (List.mem_cons_self ..)).1 (h z (List.mem_cons_self ..)).2
    have e : numsB (z :: r) = numB z ++ numsB r := by simp [numsB]
    rw [e, List.length_append, List.length_cons]
    omega
theorem numsB_snoc (zs : List Int) (z : Int) : numsB (zs ++ [z]) = numsB zs ++ numB z := by simp [numsB]

theorem encL_len {e : Ed} (h : Fit e) : (encL e).length ≤ 9000 := by
  have h1 := numB_len h.k0 h.k1
  have h2 := numB_len h.c0 h.c1
  have h3 := numB_len h.l0 h.l1
  have h4 := numB_len h.n0 h.n1
  have h5 := textB_len e.p h.p
  have h6 := textB_len e.t h.t
  have h7 := numsB_len e.ls h.each
  have h8 := h.few
  have h9 := numB_len (n := (e.ls.length : Int)) (by omega) (by omega)
  simp only [encL, List.length_append]
  omega
theorem encL_pos (e : Ed) : 0 < (encL e).length := by
  have := numB_pos e.k
  simp only [encL, List.length_append]
  omega
theorem encS_size {e : Ed} (h : Fit e) : (encS e).size ≤ 9000 := by
  rw [← size_list, encS_list]; exact encL_len h

/-! ### how numbers are read -/
def takeN (s : ByteArray) : Option (Int × ByteArray) := match takeZ 0 0 s.data.toList with
  | none => none
  | some (z, k) => some (Lib.unzigzag z, s.extract k s.size)

theorem takeN_yes {s r : ByteArray} {n : Int} (h : takeN s = some (n, r)) : ∃ z k, takeZ 0 0 s.data.toList = some (z, k) ∧ Lib.unzigzag z = n ∧ s.extract k s.size = r := by
  unfold takeN at h
  cases hT : takeZ 0 0 s.data.toList with
  | none => rw [hT] at h; cases h
  | some p =>
    obtain ⟨z, k⟩ := p
    rw [hT] at h
    simp only [Option.some.injEq, Prod.mk.injEq] at h
    exact ⟨z, k, rfl, h.1, h.2⟩
theorem takeN_no {s : ByteArray} (h : takeN s = none) : takeZ 0 0 s.data.toList = none := by
  unfold takeN at h
  cases hT : takeZ 0 0 s.data.toList with
  | none => rfl
  | some p => obtain ⟨z, k⟩ := p; rw [hT] at h; cases h
theorem takeN_size {s r : ByteArray} {n : Int} (h : takeN s = some (n, r)) : r.size ≤ s.size := by
  obtain ⟨z, k, _, _, rfl⟩ := takeN_yes h
  exact ext_size _ _ _
theorem takeN_back (n : Int) (r : ByteArray) (h0 : -9223372036854775808 ≤ n) (h1 : n ≤ 9223372036854775807) {s : ByteArray} (hs : s.data.toList = numB n ++ r.data.toList) : takeN s = some (n, r) := by
  have e : s = ⟨(numB n).toArray⟩ ++ r := bytes_inj (by rw [hs, app_list])
  have h : takeZ 0 0 s.data.toList = some (Lib.zigzag n, (numB n).length) := by rw [hs]; exact take_num n _ h0 h1
  unfold takeN
  rw [h]
  simp only [unzig_zig]
  rw [e, ext_behind _ _ _ (mk_size _).symm]
theorem takeN_sound {s r : ByteArray} {n : Int} (h : takeN s = some (n, r)) : s.data.toList = numB n ++ r.data.toList ∧ -9223372036854775808 ≤ n ∧ n ≤ 9223372036854775807 := by
  obtain ⟨z, k, h1, rfl, rfl⟩ := takeN_yes h
  obtain ⟨h2, h3, h4⟩ := take_sound h1
  refine ⟨?_, unzig_range h2⟩
  rw [← h4, ext_list, List.take_append_drop]
theorem takeN_empty : takeN ⟨#[]⟩ = none := rfl
theorem takeT_empty : takeT ⟨#[]⟩ = none := rfl
theorem takeT_less {s t r : ByteArray} (h : takeT s = some (t, r)) : r.size ≤ s.size := by
  have h1 := (takeT_sound h).1
  have h2 := congrArg List.length h1
  rw [List.length_append, size_list, size_list, size_list] at h2
  omega
theorem takeT_back2 (t r : ByteArray) (ht : t.size ≤ 4000) {s : ByteArray} (hs : s.data.toList = (textB t).data.toList ++ r.data.toList) : takeT s = some (t, r) := by
  have e : s = textB t ++ r := bytes_inj (by rw [hs, app_list])
  rw [e]; exact takeT_back t r ht

/-- n numbers, and what stands behind them. -/
def numsP : Nat → ByteArray → Option (List Int × ByteArray)
  | 0, s => some ([], s)
  | n + 1, s => match takeN s with
    | none => none
    | some (z, q) => match numsP n q with
      | none => none
      | some (zs, r) => some (z :: zs, r)

theorem numsP_back : ∀ (zs : List Int) (r : ByteArray) (s : ByteArray), (∀ z ∈ zs, -9223372036854775808 ≤ z ∧ z ≤ 9223372036854775807) → s.data.toList = numsB zs ++ r.data.toList → numsP zs.length s = some (zs, r)
  | [], r, s, _, hs => by
    have : s = r := bytes_inj (by rw [hs]; rfl)
    subst this; rfl
  | z :: zs, r, s, h, hs => by
    have hz := h z (List.mem_cons_self ..)
    have e : numsB (z :: zs) ++ r.data.toList = numB z ++ (⟨(numsB zs).toArray⟩ ++ r : ByteArray).data.toList := by
      rw [app_list]; simp [numsB]
    rw [e] at hs
    rw [List.length_cons, numsP, takeN_back z _ hz.1 hz.2 hs]
    simp only
    rw [numsP_back zs r _ (fun x hx => h x (List.mem_cons_of_mem _ hx)) (app_list _ _)]
theorem numsP_sound : ∀ (n : Nat) (s r : ByteArray) (zs : List Int), numsP n s = some (zs, r) → s.data.toList = numsB zs ++ r.data.toList ∧ zs.length = n ∧ r.size ≤ s.size
  | 0, s, r, zs, h => by
    simp only [numsP, Option.some.injEq, Prod.mk.injEq] at h
    obtain ⟨rfl, rfl⟩ := h
    exact ⟨by simp [numsB], rfl, Nat.le_refl _⟩
  | n + 1, s, r, zs, h => by
    rw [numsP] at h
    cases hT : takeN s with
    | none => rw [hT] at h; cases h
    | some p =>
      obtain ⟨z, q⟩ := p
      rw [hT] at h
      simp only at h
      cases hN : numsP n q with
      | none => rw [hN] at h; cases h
      | some y =>
        obtain ⟨ys, r'⟩ := y
        rw [hN] at h
        simp only [Option.some.injEq, Prod.mk.injEq] at h
        obtain ⟨rfl, rfl⟩ := h
        obtain ⟨h1, h2, h3⟩ := numsP_sound n q r' ys hN
        have h4 := (takeN_sound hT).1
        have h5 := takeN_size hT
        refine ⟨?_, by rw [List.length_cons, h2], by omega⟩
        rw [h4, h1]
        simp [numsB]

theorem nums_step {n k : Nat} {r0 rr q : ByteArray} {acc : List Int} {z : Int} (hk : k < n) (h : numsP n r0 = (numsP (n - k) rr).map (fun y => (acc ++ y.1, y.2))) (ht : takeN rr = some (z, q)) :
    numsP n r0 = (numsP (n - (k + 1)) q).map (fun y => ((acc ++ [z]) ++ y.1, y.2)) := by
  rw [h, show n - k = (n - (k + 1)) + 1 by omega, numsP, ht]
  simp only
  cases numsP (n - (k + 1)) q with
  | none => rfl
  | some y => obtain ⟨ys, r⟩ := y; simp
theorem nums_stop {n k : Nat} {r0 rr : ByteArray} {acc : List Int} (hk : k < n) (h : numsP n r0 = (numsP (n - k) rr).map (fun y => (acc ++ y.1, y.2))) (ht : takeN rr = none) : numsP n r0 = none := by
  rw [h, show n - k = (n - (k + 1)) + 1 by omega, numsP, ht]; rfl
theorem nums_end {n : Nat} {r0 rr : ByteArray} {acc : List Int} (h : numsP n r0 = (numsP (n - n) rr).map (fun y => (acc ++ y.1, y.2))) : numsP n r0 = some (acc, rr) := by
  rw [h, Nat.sub_self, numsP]; simp

/-- An edit at the beginning, right or not, and what stands behind it. -/
def takeE (s : ByteArray) : Option (Ed × ByteArray) := match takeN s with
  | none => none
  | some (k, s1) => match takeT s1 with
    | none => none
    | some (p, s2) => match takeT s2 with
      | none => none
      | some (t, s3) => match takeN s3 with
        | none => none
        | some (c, s4) => match takeN s4 with
          | none => none
          | some (l, s5) => match takeN s5 with
            | none => none
            | some (n, s6) => match takeN s6 with
              | none => none
              | some (m, s7) => if inB 0 m 8 = true then match numsP m.toNat s7 with
                  | none => none
                  | some (ls, r) => some (⟨k, p, t, c, l, n, ls⟩, r)
                else none

theorem takeE_back {e : Ed} (h : Fit e) (r : ByteArray) {s : ByteArray} (hs : s.data.toList = encL e ++ r.data.toList) : takeE s = some (e, r) := by
  obtain ⟨k, p, t, c, l, n, ls⟩ := e
  simp only [encL, List.append_assoc] at hs
  have hf := h.few
  unfold takeE
  let mk (x : List UInt8) : ByteArray := ⟨x.toArray⟩
  rw [takeN_back k (mk ((textB p).data.toList ++ ((textB t).data.toList ++ (numB c ++ (numB l ++ (numB n ++ (numB ls.length ++ (numsB ls ++ r.data.toList)))))))) h.k0 h.k1 hs]
  simp only
  rw [takeT_back2 p (mk ((textB t).data.toList ++ (numB c ++ (numB l ++ (numB n ++ (numB ls.length ++ (numsB ls ++ r.data.toList))))))) h.p rfl]
  simp only
  rw [takeT_back2 t (mk (numB c ++ (numB l ++ (numB n ++ (numB ls.length ++ (numsB ls ++ r.data.toList)))))) h.t rfl]
  simp only
  rw [takeN_back c (mk (numB l ++ (numB n ++ (numB ls.length ++ (numsB ls ++ r.data.toList))))) h.c0 h.c1 rfl]
  simp only
  rw [takeN_back l (mk (numB n ++ (numB ls.length ++ (numsB ls ++ r.data.toList)))) h.l0 h.l1 rfl]
  simp only
  rw [takeN_back n (mk (numB ls.length ++ (numsB ls ++ r.data.toList))) h.n0 h.n1 rfl]
  simp only
  simp only at hf
  rw [takeN_back (ls.length : Int) (mk (numsB ls ++ r.data.toList)) (by omega) (by omega) rfl]
  simp only
  rw [if_pos (inB_yes (by omega) (by omega)), Int.toNat_natCast, numsP_back ls r _ h.each rfl]

/-- The ways in which none is read, and the one in which it is. -/
theorem takeE_none1 {s : ByteArray} (h1 : takeN s = none) : takeE s = none := by unfold takeE; rw [h1]
theorem takeE_none2 {s s1 : ByteArray} {k : Int} (h1 : takeN s = some (k, s1)) (h2 : takeT s1 = none) : takeE s = none := by unfold takeE; rw [h1]; simp only; rw [h2]
theorem takeE_none3 {s s1 s2 p : ByteArray} {k : Int} (h1 : takeN s = some (k, s1)) (h2 : takeT s1 = some (p, s2)) (h3 : takeT s2 = none) : takeE s = none := by unfold takeE; rw [h1]; simp only; rw [h2]; simp only; rw [h3]
section
variable {s s1 s2 s3 s4 s5 s6 s7 r p t : ByteArray} {k c l n m : Int} {ls : List Int}
theorem takeE_none4 (h1 : takeN s = some (k, s1)) (h2 : takeT s1 = some (p, s2)) (h3 : takeT s2 = some (t, s3)) (h4 : takeN s3 = none) : takeE s = none := by
  unfold takeE; rw [h1]; simp only; rw [h2]; simp only; rw [h3]; simp only; rw [h4]
theorem takeE_none5 (h1 : takeN s = some (k, s1)) (h2 : takeT s1 = some (p, s2)) (h3 : takeT s2 = some (t, s3)) (h4 : takeN s3 = some (c, s4)) (h5 : takeN s4 = none) : takeE s = none := by
  unfold takeE; rw [h1]; simp only; rw [h2]; simp only; rw [h3]; simp only; rw [h4]; simp only; rw [h5]
theorem takeE_none6 (h1 : takeN s = some (k, s1)) (h2 : takeT s1 = some (p, s2)) (h3 : takeT s2 = some (t, s3)) (h4 : takeN s3 = some (c, s4)) (h5 : takeN s4 = some (l, s5)) (h6 : takeN s5 = none) : takeE s = none := by
  unfold takeE; rw [h1]; simp only; rw [h2]; simp only; rw [h3]; simp only; rw [h4]; simp only; rw [h5]; simp only; rw [h6]
theorem takeE_none7 (h1 : takeN s = some (k, s1)) (h2 : takeT s1 = some (p, s2)) (h3 : takeT s2 = some (t, s3)) (h4 : takeN s3 = some (c, s4)) (h5 : takeN s4 = some (l, s5)) (h6 : takeN s5 = some (n, s6)) (h7 : takeN s6 = none) : takeE s = none := by
  unfold takeE; rw [h1]; simp only; rw [h2]; simp only; rw [h3]; simp only; rw [h4]; simp only; rw [h5]; simp only; rw [h6]; simp only; rw [h7]
theorem takeE_at (h1 : takeN s = some (k, s1)) (h2 : takeT s1 = some (p, s2)) (h3 : takeT s2 = some (t, s3)) (h4 : takeN s3 = some (c, s4)) (h5 : takeN s4 = some (l, s5)) (h6 : takeN s5 = some (n, s6)) (h7 : takeN s6 = some (m, s7)) :
    takeE s = if inB 0 m 8 = true then match numsP m.toNat s7 with
                  | none => none
                  | some (ls, r) => some (⟨k, p, t, c, l, n, ls⟩, r)
                else none := by
  unfold takeE; rw [h1]; simp only; rw [h2]; simp only; rw [h3]; simp only; rw [h4]; simp only; rw [h5]; simp only; rw [h6]; simp only; rw [h7]
theorem takeE_none8 (h1 : takeN s = some (k, s1)) (h2 : takeT s1 = some (p, s2)) (h3 : takeT s2 = some (t, s3)) (h4 : takeN s3 = some (c, s4)) (h5 : takeN s4 = some (l, s5)) (h6 : takeN s5 = some (n, s6)) (h7 : takeN s6 = some (m, s7)) (h8 : inB 0 m 8 = false) : takeE s = none := by
  rw [takeE_at h1 h2 h3 h4 h5 h6 h7, h8]; rfl
theorem takeE_none9 (h1 : takeN s = some (k, s1)) (h2 : takeT s1 = some (p, s2)) (h3 : takeT s2 = some (t, s3)) (h4 : takeN s3 = some (c, s4)) (h5 : takeN s4 = some (l, s5)) (h6 : takeN s5 = some (n, s6)) (h7 : takeN s6 = some (m, s7)) (h8 : inB 0 m 8 = true) (h9 : numsP m.toNat s7 = none) : takeE s = none := by
  rw [takeE_at h1 h2 h3 h4 h5 h6 h7, if_pos h8, h9]
theorem takeE_yes (h1 : takeN s = some (k, s1)) (h2 : takeT s1 = some (p, s2)) (h3 : takeT s2 = some (t, s3)) (h4 : takeN s3 = some (c, s4)) (h5 : takeN s4 = some (l, s5)) (h6 : takeN s5 = some (n, s6)) (h7 : takeN s6 = some (m, s7)) (h8 : inB 0 m 8 = true) (h9 : numsP m.toNat s7 = some (ls, r)) : takeE s = some (⟨k, p, t, c, l, n, ls⟩, r) := by
  rw [takeE_at h1 h2 h3 h4 h5 h6 h7, if_pos h8, h9]
end

/-- The first number, text, .. of an edit that is read. -/
structure Parts (s : ByteArray) (e : Ed) (r : ByteArray) : Prop where
  ex : ∃ s1 s2 s3 s4 s5 s6 s7 m, takeN s = some (e.k, s1) ∧ takeT s1 = some (e.p, s2) ∧ takeT s2 = some (e.t, s3) ∧ takeN s3 = some (e.c, s4) ∧ takeN s4 = some (e.l, s5) ∧ takeN s5 = some (e.n, s6) ∧ takeN s6 = some (m, s7) ∧ inB 0 m 8 = true ∧ numsP m.toNat s7 = some (e.ls, r)

theorem takeE_parts {s r : ByteArray} {e : Ed} (h : takeE s = some (e, r)) : Parts s e r := by
  cases h1 : takeN s with
  | none => rw [takeE_none1 h1] at h; cases h
  | some x => obtain ⟨k, s1⟩ := x; cases h2 : takeT s1 with
    | none => rw [takeE_none2 h1 h2] at h; cases h
    | some x => obtain ⟨p, s2⟩ := x; cases h3 : takeT s2 with
      | none => rw [takeE_none3 h1 h2 h3] at h; cases h
      | some x => obtain ⟨t, s3⟩ := x; cases h4 : takeN s3 with
        | none => rw [takeE_none4 h1 h2 h3 h4] at h; cases h
        | some x => obtain ⟨c, s4⟩ := x; cases h5 : takeN s4 with
          | none => rw [takeE_none5 h1 h2 h3 h4 h5] at h; cases h
          | some x => obtain ⟨l, s5⟩ := x; cases h6 : takeN s5 with
            | none => rw [takeE_none6 h1 h2 h3 h4 h5 h6] at h; cases h
            | some x => obtain ⟨n, s6⟩ := x; cases h7 : takeN s6 with
              | none => rw [takeE_none7 h1 h2 h3 h4 h5 h6 h7] at h; cases h
              | some x => obtain ⟨m, s7⟩ := x; cases h8 : inB 0 m 8 with
                | false => rw [takeE_none8 h1 h2 h3 h4 h5 h6 h7 h8] at h; cases h
                | true => cases h9 : numsP m.toNat s7 with
                  | none => rw [takeE_none9 h1 h2 h3 h4 h5 h6 h7 h8 h9] at h; cases h
                  | some x =>
                    obtain ⟨ls, r'⟩ := x
                    rw [takeE_yes h1 h2 h3 h4 h5 h6 h7 h8 h9] at h
                    simp only [Option.some.injEq, Prod.mk.injEq] at h
                    obtain ⟨rfl, rfl⟩ := h
                    exact ⟨s1, s2, s3, s4, s5, s6, s7, m, h1, h2, h3, h4, h5, h6, h7, h8, h9⟩

theorem takeE_sound {s r : ByteArray} {e : Ed} (h : takeE s = some (e, r)) : s.data.toList = encL e ++ r.data.toList := by
  obtain ⟨s1, s2, s3, s4, s5, s6, s7, m, h1, h2, h3, h4, h5, h6, h7, h8, h9⟩ := (takeE_parts h).ex
  obtain ⟨e9, l9, _⟩ := numsP_sound _ _ _ _ h9
  have hm := inB_iff.1 h8
  have hml : m = (e.ls.length : Int) := by omega
  rw [(takeN_sound h1).1, (takeT_sound h2).1, (takeT_sound h3).1, (takeN_sound h4).1, (takeN_sound h5).1, (takeN_sound h6).1, (takeN_sound h7).1, e9, hml]
  simp only [encL, List.append_assoc]

/-! ### what is decoded -/
open Classical in
noncomputable def decE (s : ByteArray) : Option Ed := match takeE s with
  | none => none
  | some (e, r) => if r.size = 0 ∧ Rt e then some e else none

theorem decE_no1 {s : ByteArray} (h : takeE s = none) : decE s = none := by unfold decE; rw [h]
theorem decE_no2 {s r : ByteArray} {e : Ed} (h : takeE s = some (e, r)) (hn : ¬ (r.size = 0 ∧ Rt e)) : decE s = none := by unfold decE; rw [h]; simp only; rw [if_neg hn]
theorem decE_yes {s r : ByteArray} {e : Ed} (h : takeE s = some (e, r)) (h0 : r.size = 0) (hr : Rt e) : decE s = some e := by unfold decE; rw [h]; simp only; rw [if_pos ⟨h0, hr⟩]

theorem dec_back {e : Ed} (h : Rt e) : decE (encS e) = some e := by
  refine decE_yes (r := ⟨#[]⟩) (takeE_back h.fit _ ?_) rfl h
  rw [encS_list]; simp
theorem dec_parts {s : ByteArray} {e : Ed} (h : decE s = some e) : ∃ r, takeE s = some (e, r) ∧ r.size = 0 ∧ Rt e := by
  unfold decE at h
  cases hT : takeE s with
  | none => rw [hT] at h; cases h
  | some p =>
    obtain ⟨f, r⟩ := p
    rw [hT] at h
    simp only at h
    split at h
    · rename_i hc
      simp only [Option.some.injEq] at h
      subst h
      exact ⟨r, rfl, hc.1, hc.2⟩
    · cases h
theorem dec_sound {s : ByteArray} {e : Ed} (h : decE s = some e) : Rt e ∧ s = encS e := by
  obtain ⟨r, h1, h2, h3⟩ := dec_parts h
  refine ⟨h3, bytes_inj ?_⟩
  have h4 := takeE_sound h1
  have h5 : r.data.toList = [] := List.length_eq_zero_iff.1 (by rw [size_list]; exact h2)
  rw [h5, List.append_nil] at h4
  exact h4
theorem dec_tail {e : Ed} (h : Rt e) (r : ByteArray) (hr : 0 < r.size) {s : ByteArray} (hs : s.data.toList = encL e ++ r.data.toList) : decE s = none := by
  refine decE_no2 (takeE_back h.fit r hs) (fun hc => ?_)
  omega
theorem dec_cut {e : Ed} (h : Rt e) (k : Nat) (hk : k < (encL e).length) : decE ((encS e).extract 0 k) = none := by
  cases hd : decE ((encS e).extract 0 k) with
  | none => rfl
  | some f =>
    exfalso
    obtain ⟨hf, hs⟩ := dec_sound hd
    have h1 : encL f = (encL e).take k := by rw [← encS_list f, ← hs, cut_list, encS_list]
    have h2 : (encS e).data.toList = encL f ++ (⟨((encL e).drop k).toArray⟩ : ByteArray).data.toList := by rw [h1, encS_list]; simp
    have h3 := dec_tail hf ⟨((encL e).drop k).toArray⟩ (by rw [mk_size, List.length_drop]; omega) h2
    rw [dec_back h] at h3
    cases h3
theorem enc_inj {e f : Ed} (h : Rt e) (hf : Rt f) (hs : encS e = encS f) : e = f := by
  have h1 := dec_back h
  rw [hs, dec_back hf] at h1
  exact (Option.some.inj h1).symm

end Go.Proofs.Ythogpaojdlfjcaa.Edi
