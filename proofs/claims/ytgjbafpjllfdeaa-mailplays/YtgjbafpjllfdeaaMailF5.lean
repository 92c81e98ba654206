/- The contracts of mail.line.pass, mail.Age. -/
import Derived.Test.YtgjbafpjllfdeaaMailF4
namespace Go.Proofs.Ytgjbafpjllfdeaa
open Go.RowKit

theorem rowC_setCell {α : Type} {f : α → List Value} {k : Nat} (hf : Wide f k) (ys : List α) (i : Nat) (hi : i < ys.length) (j : Nat) (hj : j < k) (y : α) (v : Value) (hy : f y = (f ys[i]).set j v) : rowC f (ys.set i y) = (rowC f ys).set (i * k + j) v := by
  have hlt : (rowC f (ys.take i)).length = i * k := by rw [rowC_len hf, List.length_take, Nat.min_eq_left (by omega)]
  have ey : rowC f ys = rowC f (ys.take i) ++ (f ys[i] ++ rowC f (ys.drop (i + 1))) := by
    rw [← rowC_cons, ← rowC_app, ← List.drop_eq_getElem_cons hi, List.take_append_drop]
  rw [rowC_set ys i hi y, ey, List.append_assoc, hy, List.set_append, if_neg (by omega), hlt, Nat.add_sub_cancel_left, List.set_append, if_pos (by rw [hf.len]; exact hj)]

theorem Cel.setOne {O : Nat → Prop} {w : World} {size : Nat} {a : Option Addr} {n c b : Nat} {cs : List Value} (h : Cel O w size (.slice a n c) n cs (some b)) (q : Nat) (hq : q < cs.length) (v : Value) : Cel O (w.setCell ⟨b, q, none⟩ v) size (.slice a n c) n (cs.set q v) (some b) := by
  have hl := h.len
  have hc : n * size ≤ c * size := Nat.mul_le_mul_right _ h.cap2.1
  refine h.setCells q [v] (by simp; omega) n _ h.cap2.1 (by rw [List.length_set]; exact hl) (fun j hj => ?_)
  rw [← List.getElem?_eq_getElem hj, List.getElem?_set]
  by_cases e : q = j
  · subst e
    rw [if_pos ⟨Nat.le_refl _, by simp⟩, if_pos rfl, if_pos hq, Nat.sub_self]; rfl
  · rw [if_neg (by simp; omega), if_neg e]

def up (x : Ag) : Ag := (x.1, x.2 + 1)
/-- The first i are older by one. -/
def bump (i : Nat) (zs : ML) : ML := (zs.take i).map up ++ zs.drop i
theorem bump_zero (zs : ML) : bump 0 zs = zs := by simp [bump]
theorem bump_len (i : Nat) (zs : ML) : (bump i zs).length = zs.length := by
  simp [bump]; omega
theorem bump_at (i : Nat) (zs : ML) (hi : i < zs.length) : (bump i zs)[i]'(by rw [bump_len]; exact hi) = zs[i] := by
  have h : (bump i zs)[i]? = zs[i]? := by
    unfold bump
    rw [List.getElem?_append_right (by simp; omega), List.getElem?_drop]
    congr 1; simp; omega
  rw [List.getElem?_eq_getElem hi, List.getElem?_eq_getElem (by rw [bump_len]; exact hi)] at h
  exact Option.some.inj h
theorem bump_next (i : Nat) (zs : ML) (hi : i < zs.length) : (bump i zs).set i (up zs[i]) = bump (i + 1) zs := by
  have hl : ((zs.take i).map up).length = i := by simp; omega
  unfold bump
  rw [List.set_append, if_neg (by omega), hl, Nat.sub_self, List.drop_eq_getElem_cons hi, List.set_cons_zero, List.take_succ_eq_append_getElem hi, List.map_append, List.append_assoc]
  rfl
theorem bump_all (zs : ML) : bump zs.length zs = zs.map up := by simp [bump]

section
variable {O : Nat → Prop} {w : World} {p : Nat} {a : Option Addr} {c : Nat} {g : Option Nat} {xs : ML}

/-- One message is older. -/
theorem MailAt.setAge {b : Nat} (h : MailAt O w p a c (some b) xs) (i : Nat) (hi : i < xs.length) (m : Msg) (k : Nat) (hx : xs[i] = (m, k)) : MailAt O (w.setCell ⟨b, i * 3 + 2, none⟩ (.int .i64 ((k : Int) + 1))) p a c (some b) (xs.set i (m, k + 1)) := by
  have hne : p ≠ b := fun e => h.ne (by rw [e])
  have hl : (rowC agC xs).length = xs.length * 3 := rowC_len wideA xs
  have e : rowC agC (xs.set i (m, k + 1)) = (rowC agC xs).set (i * 3 + 2) (.int .i64 ((k : Int) + 1)) := rowC_setCell wideA xs i hi 2 (by omega) (m, k + 1) _ (by rw [hx]; rfl)
  refine ⟨fun j hj => by simpa [World.setCell] using h.lt j hj, h.oP, ?_, by rw [World.frozen?_setCell]; exact h.f0, ?_, h.ne⟩
  · rw [World.cell?_setCell_other, List.length_set]
    · exact h.c0
    · intro e; exact hne (Addr.mk.inj e).1.symm
  · rw [e, List.length_set]
    exact h.cel.setOne _ (by omega) _

set_option maxRecDepth 100000 in
set_option maxHeartbeats 2000000 in
theorem pass_val (h : MailAt O w p a c g xs) (hle : xs.length ≤ 1000) (hag : ∀ x ∈ xs, x.2 ≤ 1000000) (t : Int) (q : Int) (hq : (xs.length : Int) - ((keptL t xs).length : Int) = q) :
    Calls Try.prog 26 #[.pointer (some ⟨p, 0, none⟩), .int .i64 t] w fun e w' => e = .returned (.int .i64 q) ∧ (∃ a' c' g', MailAt (Grow O w w') w' p a' c' g' (ageL t xs)) ∧ Stay O w w' := by
  obtain ⟨n, hn⟩ : ∃ n, xs.length = n := ⟨_, rfl⟩
  obtain ⟨m, hm⟩ : ∃ m, (keptL t xs).length = m := ⟨_, rfl⟩
  have hmn : m ≤ n := by rw [← hm, ← hn]; exact keptL_len t xs
  have hp := h.lt p h.oP
  have c0 := cell_al h.c0
  rw [hn] at c0 hle hq
  rw [hm] at hq
  have CD : Hid (∀ o, (w.alloc o).cell? ⟨w.heap.size, 0, none⟩ = some (.int .i64 t) → Calls Try.prog 30 #[.slice a n c, .func (.func 31) #[] #[.pointer (some ⟨w.heap.size, 0, none⟩)]] (w.alloc o) fun e w' => e = .returned (.slice a m c) ∧ w'.cell? ⟨p, 0, none⟩ = some (.slice a n c) ∧ w'.frozen? ⟨p, 0, none⟩ = false ∧
      Hid (MailAt (Grow O w (w'.setCell ⟨p, 0, none⟩ (.slice a m c))) (w'.setCell ⟨p, 0, none⟩ (.slice a m c)) p a c g (keptL t xs) ∧ Stay O w (w'.setCell ⟨p, 0, none⟩ (.slice a m c)))) := fun o ho => by
    have hb : Below w.heap.size w (w.alloc o) := (Below.refl _ w).alloc (Nat.le_refl _) o
    have h1 := h.below hb
    have hcel := h1.cel
    rw [hn] at hcel
    refine (deleteFunc_val hcel hn hle w.heap.size t ho (fun e => ?_) m hm).mono fun e w' ⟨e1, e2, e3⟩ => ?_
    · rw [e] at hcel
      have := h.lt _ hcel.lt.2
      omega
    · have eb := e3.block p (h1.lt p h1.oP) h.ne
      have q0 : w'.cell? ⟨p, 0, none⟩ = some (.slice a n c) := by rw [World.cell?_of_block (a := ⟨p, 0, none⟩) eb, h1.c0, hn]
      have q1 : w'.frozen? ⟨p, 0, none⟩ = false := by rw [World.frozen?_of_block (a := ⟨p, 0, none⟩) eb, h1.f0]
      refine ⟨e1, q0, q1, h.setRow ((Stay.of_below hb).trans e3 (fun i _ ei => ?_)) hm (e2.stay (Nat.le_refl _) (fun _ _ => rfl) (fun _ hk => .inl hk)) h.ne q0 q1⟩
      rw [ei] at hcel
      exact hcel.lt.2
  have hkag : ∀ x ∈ keptL t xs, x.2 ≤ 1000000 := fun x hx => hag x (List.mem_filter.1 hx).1
  have HKA : Hid _ := hkag
  have HMM : Hid _ := hm
  clear h hn hm hag hkag hp
  go_enter Try.func26, Try.ntmps26
  go_wp2_with (refine (CD.out _ (World.cell?_alloc_new w _ _ 0)).mono ?_; rintro e w1 ⟨rfl, q0, q1, hX⟩)
  go_loopw [6, 26] (fun _ v wr => ∃ i : Nat, i ≤ m ∧ v = .int .i64 i ∧ MailAt (Grow O w wr) wr p a c g (bump i (keptL t xs)) ∧ Stay O w wr) (fun _ v _ => m - (intOf v).toNat)
  case atStart => exact ⟨0, by omega, rfl, by rw [bump_zero]; exact hX.out.1, hX.out.2⟩
  case round =>
    obtain ⟨i, hi, rfl, hM, hS⟩ := hrel
    have hc0 := hM.c0
    rw [bump_len, HMM.out] at hc0
    have HM : Hid (MailAt (Grow O w wr) wr p a c g (bump i (keptL t xs))) := hM
    have HS : Hid (Stay O w wr) := hS
    by_cases hlt : i < m
    · have hik : i < (keptL t xs).length := by rw [HMM.out]; exact hlt
      have hib : i < (bump i (keptL t xs)).length := by rw [bump_len]; exact hik
      obtain ⟨xm, xa, hx⟩ : ∃ xm xa, (keptL t xs)[i] = (xm, xa) := ⟨_, _, rfl⟩
      have hbx : (bump i (keptL t xs))[i] = (xm, xa) := (bump_at i _ hik).trans hx
      have hxa : xa ≤ 1000000 := by have := HKA.out _ (List.getElem_mem hik); rw [hx] at this; exact this
      obtain ⟨b, hab, hgb, e0, e1, e2⟩ := hM.elem hib
      subst hab hgb
      rw [hbx] at e2
      have hcel := hM.cel
      have fz := (hcel.live (i * 3 + 2) (by have := hcel.cap2.1; rw [bump_len, HMM.out] at this; omega)).2
      have hM2 := hM.setAge i hib xm xa hbx
      have hbn : (bump i (keptL t xs)).set i (xm, xa + 1) = bump (i + 1) (keptL t xs) := by rw [← bump_next i _ hik, hx]; rfl
      rw [hbn] at hM2
      have hz : (wr.setCell ⟨b, i * 3 + 2, none⟩ (.int .i64 ((xa : Int) + 1))).heap.size = wr.heap.size := by simp [World.setCell]
      have hM3 : MailAt (Grow O w (wr.setCell ⟨b, i * 3 + 2, none⟩ (.int .i64 ((xa : Int) + 1)))) (wr.setCell ⟨b, i * 3 + 2, none⟩ (.int .i64 ((xa : Int) + 1))) p (some ⟨b, 0, none⟩) c (some b) (bump (i + 1) (keptL t xs)) := by
        refine hM2.wide (fun k hk => ?_) (fun k hk => ?_)
        · unfold Grow at hk ⊢; rwa [hz]
        · unfold Grow at hk; rw [hz] at hk ⊢; exact hM.lt k hk
      have hS3 : Stay O w (wr.setCell ⟨b, i * 3 + 2, none⟩ (.int .i64 ((xa : Int) + 1))) := hS.andThen (Stay.setCell _ _ _ hcel.lt.2)
      have X3 : Hid _ := And.intro hM3 hS3
      have e2' : wr.cell? ⟨b, i * 3 + 2, none⟩ = some (.int .i64 (xa : Int)) := e2
      clear hM hS hM2 hM3 hS3 hcel hbn hz e0 e1 e2 hbx hx hX hik hib CD
      go_wp2
      go_roundw
      case rel => exact ⟨i + 1, by omega, by go_num, X3.out.1, X3.out.2⟩
      case measure => simp [intOf]; omega
    · obtain rfl : i = m := by omega
      have X3 : Hid (MailAt (Grow O w wr) wr p a c g (ageL t xs) ∧ Stay O w wr) := ⟨by have := hM; rw [show bump i (keptL t xs) = ageL t xs by rw [← HMM.out, bump_all]; rfl] at this; exact this, hS⟩
      have hgd : decide ((i : Int) < (i : Int)) = false := decide_eq_false (by omega)
      clear hM hS hX CD hlt
      go_wp2
      go_ret
      exact ⟨by first | rfl | (rw [← hq]; rfl), ⟨a, c, g, X3.out.1⟩, X3.out.2⟩

set_option maxRecDepth 100000 in
theorem age_val (h : MAt O w p xs) (hle : xs.length ≤ 1000) (hag : ∀ x ∈ xs, x.2 ≤ 1000000) (t : Int) (q : Int) (hq : (xs.length : Int) - ((keptL t xs).length : Int) = q) {ys : ML} (hy : ageL t xs = ys) :
    Calls Try.prog 16 #[.pointer (some ⟨p, 0, none⟩), .int .i64 t] w fun e w' => e = .returned (.int .i64 q) ∧ MAt (Grow O w w') w' p ys ∧ Stay O w w' := by
  obtain ⟨a, c, g, h⟩ := h.ex
  subst hy
  have CP : Hid _ := fun (_ : Unit) => pass_val h hle hag t q hq
  clear h hle hag hq
  go_enter Try.func16, Try.ntmps16
  go_wp2_with (refine (CP.out ()).mono ?_; rintro e w1 ⟨rfl, hm, hs⟩)
  go_ret
  exact ⟨rfl, ⟨hm⟩, hs⟩

end
end Go.Proofs.Ytgjbafpjllfdeaa
