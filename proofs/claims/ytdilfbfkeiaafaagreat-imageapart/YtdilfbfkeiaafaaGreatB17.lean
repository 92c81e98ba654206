/- Part 17 of the proof: ImageP, ImageQ, SpaceEx. -/
import Derived.Test.YtdilfbfkeiaafaaGreatB15
import Derived.Test.YtdilfbfkeiaafaaGreatB16
set_option maxRecDepth 100000
set_option maxHeartbeats 8000000
namespace Go.Proofs.YtdilfbfkeiaafaaGreat.Img
open Go.RowKit Go.Proofs.YtdilfbfkeiaafaaGreat Go.Proofs.YtdilfbfkeiaafaaGreat.Smm
open Go.Proofs.YtdilfbfkeiaafaaGreat.Spa (Sp RtS zeroS newS rootN path_list path_small)
open Go.Proofs.YtdilfbfkeiaafaaGreat.Lea (LS Ls)
open Go.Proofs.YtdilfbfkeiaafaaGreat.Edi (numsB numsB_len)
open Go.Proofs.YtdilfbfkeiaafaaGreat.Wir (textB textB_data app_list app_size size_list mk_size numB_len numB_prefix)
open Go.WideShapes (bytes_inj)
theorem fit_of {x : Nd} (h : fitsB x = true) : FitX x ∧ x.path.size ≤ 120 ∧ x.path.data.toList[0]? = some 47 := by
  have hp : pathB x.path = true := by
    unfold fitsB at h; exact (Bool.and_eq_true _ _ ▸ h : _ ∧ _).1
  have hs := path_small hp
  have h0 : x.path.data.toList[0]? = some 47 := by
    obtain ⟨_, h1⟩ := path_list hp
    rcases h1 with ⟨h1, _⟩ | ⟨_, h1, h2⟩
    · rw [h1]; rfl
    · rw [h2]
      cases hn : splitN x.path with
      | nil => exact absurd hn h1
      | cons a r => rw [pathL_cons]; rfl
  refine ⟨?_, hs, h0⟩
  have h8 := fits_few h
  unfold fitsB at h; have h2 := (Bool.and_eq_true _ _ ▸ h : _ ∧ _).2
  cases hd : x.dir with
  | true =>
    rw [hd] at h2
    simp only [if_true, dirB, Bool.and_eq_true, decide_eq_true_eq] at h2
    obtain ⟨⟨k1, k2⟩, k3, k4⟩ := h2
    exact ⟨by omega, h8, by unfold I64; omega, by unfold I64; omega, fun b hb => by rw [List.length_eq_zero_iff.1 k1] at hb; cases hb⟩
  | false =>
    rw [hd] at h2
    simp only [Bool.false_eq_true, if_false, fileB, headB, Bool.and_eq_true, decide_eq_true_eq] at h2
    obtain ⟨⟨⟨⟨k1, k2⟩, k3, k4⟩, k5⟩, k6⟩ := h2
    refine ⟨by omega, h8, by unfold I64; omega, by unfold I64; omega, fun b hb => ?_⟩
    have := List.all_eq_true.1 k6 b hb
    simp only [blkB, numB, Bool.and_eq_true, decide_eq_true_eq] at this
    unfold I64; omega
theorem lease_fit {s : Sp} (h : RtS s) : ∀ l ∈ s.ls, FitL l := fun l hl => by
  have := h.ls.ok l hl
  exact ⟨by unfold I64; omega, by unfold I64; omega⟩
theorem lease_few {s : Sp} (h : RtS s) : s.ls.length ≤ 4 := by
  have h1 := h.ls.ok
  have h2 := h.ls.up
  have key : ∀ (xs : LS) (m : Int), (∀ x ∈ xs, m ≤ x.c ∧ x.c < 4) → xs.Pairwise (fun x y => x.c < y.c) → m ≤ 4 → (xs.length : Int) ≤ 4 - m := by
    intro xs
    induction xs with
    | nil => intro m _ _ hm; simp; omega
    | cons x r ih =>
      intro m hm hp _
      have hx := hm x (List.mem_cons_self ..)
      obtain ⟨p1, p2⟩ := List.pairwise_cons.1 hp
      have := ih (x.c + 1) (fun y hy => ⟨by have := p1 y hy; omega, (hm y (List.mem_cons_of_mem _ hy)).2⟩) p2 (by omega)
      simp only [List.length_cons]
      omega
  have := key s.ls 0 (fun x hx => ⟨(h1 x hx).1, (h1 x hx).2.1⟩) h2 (by omega)
  omega
theorem rts_fit {s : Sp} (h : RtS s) : FitS s := by
  have h1 := h.tx
  have h2 := h.nb
  have h3 := h.ng
  have h4 := h.now
  have h5 := h.tree.few
  have h6 := lease_few h
  exact ⟨by unfold I64; omega, by unfold I64; omega, by unfold I64; omega, by unfold I64; omega, fun x hx => (fit_of (h.tree.fit x hx)).1, lease_fit h, by omega, by omega⟩
theorem headL_size {zs : List Int} (h : ∀ z ∈ zs, I64 z) (h6 : zs.length = 6) : (headL zs).size ≤ 61 := by
  have := numsB_len zs h
  unfold headL; rw [mk_sz2, List.length_cons]; omega
theorem leaseP_size {l : Ls} (h : FitL l) : (leaseP l).size ≤ 20 := by
  have := numsB_len [l.c, l.u] h.zs
  unfold leaseP; rw [mk_sz2]; simpa using this
theorem nodeZ_len (x : Nd) : (nodeZ x).length = 4 + 3 * x.bs.length := by unfold nodeZ; rw [List.length_append, blkZ_len]; rfl
theorem nodeP_size {x : Nd} (h : FitX x) (hp : x.path.size ≤ 120) : (nodeP x).size ≤ 410 := by
  have h1 := numsB_len (nodeZ x) h.zs
  have h2 := numB_len (n := (x.path.size : Int)) (by omega) (by omega)
  rw [nodeZ_len] at h1
  have h3 := h.few
  unfold nodeP textB; rw [app_size, app_size, mk_sz2, mk_size]; omega
theorem parts_small {s : Sp} (h : RtS s) : Small (partsS s) := by
  intro p hp
  have hf := rts_fit h
  unfold partsS at hp; rcases List.mem_cons.1 hp with rfl | hp
  · have := headL_size hf.hz rfl; omega
  · rcases List.mem_append.1 hp with hp | hp
    · obtain ⟨x, hx, rfl⟩ := List.mem_map.1 hp
      obtain ⟨k1, k2, _⟩ := fit_of (h.tree.fit x hx)
      have := nodeP_size k1 k2; omega
    · obtain ⟨x, hx, rfl⟩ := List.mem_map.1 hp
      have := leaseP_size (hf.ls x hx); omega
theorem partsS_len (s : Sp) : (partsS s).length = 1 + s.ns.length + s.ls.length := by unfold partsS; simp; omega
theorem sealB_le {p : ByteArray} (h : p.size ≤ 4000) : (sealB p).size ≤ p.size + 14 := by
  have h1 := numB_len (n := (p.size : Int)) (by omega) (by omega)
  rw [sealB_size]; omega
theorem joinL_len : ∀ (ps : List ByteArray) (m : Nat), (∀ p ∈ ps, p.size ≤ m) → m ≤ 4000 → (joinL ps).length ≤ (m + 14) * ps.length
  | [], _, _, _ => by simp [joinL]
  | p :: ps, m, h, hm => by
    have h1 := joinL_len ps m (fun x hx => h x (List.mem_cons_of_mem _ hx)) hm
    have h2 := h p (List.mem_cons_self ..)
    have h3 := sealB_le (p := p) (by omega)
    rw [joinL_cons, List.length_append, size_list, List.length_cons, Nat.mul_add, Nat.mul_one]
    omega
theorem joinL_small {ps : List ByteArray} {k : Nat} (h : Small ps) (hk : ps.length ≤ k) : (joinL ps).length ≤ 4014 * k := by
  have h1 := joinL_len ps 4000 h (Nat.le_refl _)
  have h2 : (4000 + 14) * ps.length ≤ 4014 * k := Nat.mul_le_mul (Nat.le_refl _) hk
  omega
theorem enc_size {s : Sp} (h : RtS s) : (encI s).size ≤ 260910 := by
  have h1 := joinL_small (k := 65) (parts_small h) (by rw [partsS_len]; have := h.tree.few; have := lease_few h; omega)
  unfold encI joinP; rw [mk_sz2]; omega
theorem dec_back {s : Sp} (h : RtS s) : DecI (encI s) s 0 := .ok s h (parts_small h) rfl
theorem enc_same {s t : Sp} (hs : RtS s) (ht : RtS t) : encI s = encI t ↔ s = t :=
  ⟨fun h => partsS_inj (joinP_inj (parts_small hs) (parts_small ht) h), fun h => by rw [h]⟩
open Go.Proofs.YtdilfbfkeiaafaaGreat.Spa (Sp RtS zeroS newS rootN)
open Go.Proofs.YtdilfbfkeiaafaaGreat.Edi (numsB numsB_len takeN takeN_back takeN_sound takeN_size takeT_back2 takeT_less)
open Go.Proofs.YtdilfbfkeiaafaaGreat.Wir (textB takeT takeT_sound app_list app_size size_list)
abbrev St := ByteArray × Bool
def numS (s : St) : Int × St := match takeN s.1 with
  | none => (0, (⟨#[]⟩, false))
  | some (n, r) => (n, (r, s.2))
def txtS (s : St) : ByteArray × St := match takeT s.1 with
  | none => (⟨#[]⟩, (⟨#[]⟩, false))
  | some (t, r) => (t, (r, s.2))
theorem numS_no {s : St} (h : takeN s.1 = none) : numS s = (0, (⟨#[]⟩, false)) := by unfold numS; rw [h]
theorem numS_yes {s : St} {n : Int} {r : ByteArray} (h : takeN s.1 = some (n, r)) : numS s = (n, (r, s.2)) := by unfold numS; rw [h]
theorem txtS_no {s : St} (h : takeT s.1 = none) : txtS s = (⟨#[]⟩, (⟨#[]⟩, false)) := by unfold txtS; rw [h]
theorem txtS_yes {s : St} {t r : ByteArray} (h : takeT s.1 = some (t, r)) : txtS s = (t, (r, s.2)) := by unfold txtS; rw [h]
theorem txtS_small (s : St) : (txtS s).1.size ≤ 4000 := by
  cases h : takeT s.1 with
  | none => rw [txtS_no h]; exact Nat.zero_le _
  | some p => obtain ⟨n, r⟩ := p; rw [txtS_yes h]; exact (takeT_sound h).2
theorem numS_ok {s : St} {n : Int} {r : ByteArray} (h : numS s = (n, (r, true))) : s.2 = true ∧ s.1.data.toList = Wir.numB n ++ r.data.toList ∧ I64 n := by
  cases hT : takeN s.1 with
  | none => rw [numS_no hT] at h; simp at h
  | some p =>
    obtain ⟨m, q⟩ := p
    rw [numS_yes hT] at h
    simp only [Prod.mk.injEq] at h
    obtain ⟨rfl, rfl, h2⟩ := h
    exact ⟨h2, takeN_sound hT⟩
theorem numS_back {b r : ByteArray} {n : Int} (ok : Bool) (hn : I64 n) (h : b.data.toList = Wir.numB n ++ r.data.toList) : numS (b, ok) = (n, (r, ok)) :=
  numS_yes (s := (b, ok)) (takeN_back n r hn.1 hn.2 h)
theorem txtS_ok {s : St} {t r : ByteArray} (h : txtS s = (t, (r, true))) : s.2 = true ∧ s.1.data.toList = (textB t).data.toList ++ r.data.toList ∧ t.size ≤ 4000 := by
  cases hT : takeT s.1 with
  | none => rw [txtS_no hT] at h; simp at h
  | some p =>
    obtain ⟨m, q⟩ := p
    rw [txtS_yes hT] at h
    simp only [Prod.mk.injEq] at h
    obtain ⟨rfl, rfl, h2⟩ := h
    exact ⟨h2, takeT_sound hT⟩
theorem txtS_back {b t r : ByteArray} (ok : Bool) (ht : t.size ≤ 4000) (h : b.data.toList = (textB t).data.toList ++ r.data.toList) : txtS (b, ok) = (t, (r, ok)) :=
  txtS_yes (s := (b, ok)) (takeT_back2 t r ht h)
def numsS : Nat → St → List Int × St
  | 0, s => ([], s)
  | k + 1, s => ((numS s).1 :: (numsS k (numS s).2).1, (numsS k (numS s).2).2)
theorem numsS_ok : ∀ (k : Nat) (s : St) (zs : List Int) (r : ByteArray), numsS k s = (zs, (r, true)) → s.2 = true ∧ zs.length = k ∧ s.1.data.toList = numsB zs ++ r.data.toList ∧ ∀ z ∈ zs, I64 z
  | 0, s, zs, r, h => by
    simp only [numsS, Prod.mk.injEq] at h
    obtain ⟨rfl, h⟩ := h
    rw [h]
    exact ⟨rfl, rfl, rfl, fun z hz => by cases hz⟩
  | k + 1, s, zs, r, h => by
    simp only [numsS, Prod.mk.injEq] at h
    obtain ⟨rfl, h⟩ := h
    obtain ⟨⟨n, s1⟩, hs1⟩ : ∃ x, numS s = x := ⟨_, rfl⟩
    rw [hs1] at h ⊢
    simp only at h ⊢
    obtain ⟨h1, h2, h3, h4⟩ := numsS_ok k s1 _ r (Prod.ext rfl h)
    obtain ⟨s1a, s1b⟩ := s1
    simp only at h1 h3
    subst h1; obtain ⟨k1, k2, k3⟩ := numS_ok hs1
    refine ⟨k1, by rw [List.length_cons, h2], ?_, fun z hz => ?_⟩
    · rw [k2, h3, numsB_cons, List.append_assoc]
    · rcases List.mem_cons.1 hz with rfl | hz
      · exact k3
      · exact h4 z hz
theorem numsS_back : ∀ (zs : List Int) (b r : ByteArray) (ok : Bool), (∀ z ∈ zs, I64 z) → b.data.toList = numsB zs ++ r.data.toList → numsS zs.length (b, ok) = (zs, (r, ok))
  | [], b, r, ok, _, h => by
    have : b = r := bytes_inj (by rw [h]; rfl)
    subst this; rfl
  | z :: zs, b, r, ok, hz, h => by
    rw [numsB_cons, List.append_assoc] at h
    have h1 := numS_back (b := b) (r := mk (numsB zs ++ r.data.toList)) ok (hz z (List.mem_cons_self ..)) (by rw [mk_li]; exact h)
    rw [List.length_cons, numsS, h1]
    simp only
    rw [numsS_back zs _ r ok (fun x hx => hz x (List.mem_cons_of_mem _ hx)) (mk_li _)]
def endB (s : St) : Bool := s.2 && s.1.toList.isEmpty
theorem empty_iff (b : ByteArray) : b.toList.isEmpty = true ↔ b = ⟨#[]⟩ := by
  rw [ByteArray.toList_eq, List.isEmpty_iff]
  exact ⟨fun h => bytes_inj (by rw [h]), fun h => by rw [h]⟩
theorem endB_iff {s : St} : endB s = true ↔ s = (⟨#[]⟩, true) := by
  unfold endB; rw [Bool.and_eq_true, empty_iff]
  exact ⟨fun h => Prod.ext h.2 h.1, fun h => by rw [h]; exact ⟨rfl, rfl⟩⟩
theorem nums_iff {k : Nat} {s s' : St} {zs : List Int} (h : numsS k s = (zs, s')) : (endB s' = true → s.2 = true ∧ zs.length = k ∧ (∀ z ∈ zs, I64 z) ∧ s.1.data.toList = numsB zs) ∧ (endB s' = false → s.2 = true → ∀ ys : List Int, ys.length = k → (∀ z ∈ ys, I64 z) → s.1.data.toList ≠ numsB ys) := by
  constructor
  · intro he
    rw [endB_iff.1 he] at h
    obtain ⟨h1, h2, h3, h4⟩ := numsS_ok k s zs _ h
    exact ⟨h1, h2, h4, by rw [h3]; simp⟩
  · intro he ht ys hl hy hs
    obtain ⟨b, ok⟩ := s
    simp only at ht hs
    subst ht; have h1 := numsS_back ys b ⟨#[]⟩ true hy (by rw [hs]; simp)
    rw [hl, h] at h1
    simp only [Prod.mk.injEq] at h1
    rw [h1.2, endB_iff.2 rfl] at he
    cases he
theorem numsS_add : ∀ (k m : Nat) (s : St), numsS (k + m) s = ((numsS k s).1 ++ (numsS m (numsS k s).2).1, (numsS m (numsS k s).2).2)
  | 0, m, s => by simp [numsS]
  | k + 1, m, s => by
    rw [Nat.succ_add, numsS, numsS_add k m]
    rfl
theorem lease_iff {part : ByteArray} {z0 z1 : Int} {s1 s2 : St} (h0 : numS (part, true) = (z0, s1)) (h1 : numS s1 = (z1, s2)) :
    (endB s2 = true → part = leaseP ⟨z0, z1⟩ ∧ FitL ⟨z0, z1⟩) ∧ (endB s2 = false → ∀ l, FitL l → part ≠ leaseP l) := by
  have hn : numsS 2 (part, true) = ([z0, z1], s2) := by simp [numsS, h0, h1]
  obtain ⟨k1, k2⟩ := nums_iff hn
  constructor
  · intro he
    obtain ⟨_, _, h3, h4⟩ := k1 he
    refine ⟨bytes_inj ?_, ⟨h3 z0 (by simp), h3 z1 (by simp)⟩⟩
    unfold leaseP; rw [mk_li]; exact h4
  · intro he l hl e
    refine k2 he rfl [l.c, l.u] rfl hl.zs ?_
    rw [e]; unfold leaseP; rw [mk_li]
theorem head_iff {part left : ByteArray} (hp : part.data.toList = 84 :: left.data.toList) {z0 z1 z2 z3 z4 z5 : Int} {s1 s2 s3 s4 s5 s6 : St} (h0 : numS (left, true) = (z0, s1)) (h1 : numS s1 = (z1, s2)) (h2 : numS s2 = (z2, s3)) (h3 : numS s3 = (z3, s4)) (h4 : numS s4 = (z4, s5)) (h5 : numS s5 = (z5, s6)) :
    (endB s6 = true → part = headL [z0, z1, z2, z3, z4, z5] ∧ ∀ z ∈ [z0, z1, z2, z3, z4, z5], I64 z) ∧ (endB s6 = false → ∀ zs : List Int, zs.length = 6 → (∀ z ∈ zs, I64 z) → part ≠ headL zs) := by
  have hn : numsS 6 (left, true) = ([z0, z1, z2, z3, z4, z5], s6) := by simp [numsS, h0, h1, h2, h3, h4, h5]
  obtain ⟨k1, k2⟩ := nums_iff hn
  constructor
  · intro he
    obtain ⟨_, _, q3, q4⟩ := k1 he
    refine ⟨bytes_inj ?_, q3⟩
    unfold headL; rw [mk_li, hp, q4]
  · intro he zs hl hz e
    refine k2 he rfl zs hl hz ?_
    rw [e] at hp
    unfold headL at hp; rw [mk_li] at hp
    exact (List.cons.inj hp).2.symm
theorem head_no {part : ByteArray} (h : ∀ left : ByteArray, part.data.toList ≠ 84 :: left.data.toList) (zs : List Int) : part ≠ headL zs := fun e => by
  refine h (mk (numsB zs)) ?_
  rw [e]; unfold headL; rw [mk_li, mk_li]
def blksS : Nat → St → List Blk × St
  | 0, s => ([], s)
  | k + 1, s => (⟨(numS s).1, (numS (numS s).2).1, (numS (numS (numS s).2).2).1⟩ :: (blksS k (numS (numS (numS s).2).2).2).1, (blksS k (numS (numS (numS s).2).2).2).2)
theorem blksS_nums : ∀ (k : Nat) (s : St), numsS (3 * k) s = (blkZ (blksS k s).1, (blksS k s).2)
  | 0, s => rfl
  | k + 1, s => by
    have e : 3 * (k + 1) = (3 * k) + 1 + 1 + 1 := by omega
    rw [e, numsS, numsS, numsS, blksS_nums k, blksS]
    simp only [blkZ_cons]
theorem blksS_len : ∀ (k : Nat) (s : St), (blksS k s).1.length = k
  | 0, _ => rfl
  | k + 1, s => by rw [blksS, List.length_cons, blksS_len k]
theorem blksS_next : ∀ (k : Nat) (s : St), blksS (k + 1) s = ((blksS k s).1 ++ [⟨(numS (blksS k s).2).1, (numS (numS (blksS k s).2).2).1, (numS (numS (numS (blksS k s).2).2).2).1⟩], (numS (numS (numS (blksS k s).2).2).2).2)
  | 0, s => rfl
  | k + 1, s => by
    rw [blksS, blksS_next k]
    simp only [blksS, List.cons_append]
theorem node_iff {part p : ByteArray} {z0 z1 z2 : Int} {m : Nat} {s1 s2 s3 s4 s5 : St} (h0 : txtS (part, true) = (p, s1)) (h1 : numS s1 = (z0, s2)) (h2 : numS s2 = (z1, s3)) (h3 : numS s3 = (z2, s4)) (h4 : numS s4 = ((m : Int), s5)) (hk : z0 = 0 ∨ z0 = 1) (hm : m ≤ 8) :
    (endB (blksS m s5).2 = true → part = nodeP ⟨p, z0 == 1, z1, (blksS m s5).1, z2⟩ ∧ FitX ⟨p, z0 == 1, z1, (blksS m s5).1, z2⟩) ∧ (endB (blksS m s5).2 = false → ∀ x, FitX x → part ≠ nodeP x) := by
  have hn : numsS (4 + 3 * m) s1 = ([z0, z1, z2, (m : Int)] ++ blkZ (blksS m s5).1, (blksS m s5).2) := by
    have h4' : numsS 4 s1 = ([z0, z1, z2, (m : Int)], s5) := by simp [numsS, h1, h2, h3, h4]
    rw [numsS_add, h4']
    simp only
    rw [blksS_nums]
  have hkd : kindZ (z0 == 1) = z0 := by rcases hk with rfl | rfl <;> rfl
  have hlen := blksS_len m s5
  obtain ⟨k1, k2⟩ := nums_iff hn
  constructor
  · intro he
    obtain ⟨q1, _, q3, q4⟩ := k1 he
    obtain ⟨s1a, s1b⟩ := s1
    simp only at q1 q4
    subst q1; obtain ⟨_, r2, r3⟩ := txtS_ok h0
    have hz : nodeZ ⟨p, z0 == 1, z1, (blksS m s5).1, z2⟩ = [z0, z1, z2, (m : Int)] ++ blkZ (blksS m s5).1 := by
      unfold nodeZ; simp only
      rw [hkd, hlen]
    refine ⟨bytes_inj ?_, ⟨r3, by simp only; omega, q3 z1 (by simp), q3 z2 (by simp), fun b hb => ?_⟩⟩
    · rw [nodeP_list, hz, ← q4]
      exact r2
    · have hsub : ∀ z ∈ [b.id, b.gen, b.len], I64 z := fun z hz => q3 z (List.mem_append_right _ (List.mem_flatMap.2 ⟨b, hb, hz⟩))
      exact ⟨hsub _ (by simp), hsub _ (by simp), hsub _ (by simp)⟩
  · intro he x hx e
    have hl : part.data.toList = (textB x.path).data.toList ++ (mk (numsB (nodeZ x))).data.toList := by rw [e, nodeP_list, mk_li]
    have h5 := txtS_back (b := part) (r := mk (numsB (nodeZ x))) true hx.path hl
    rw [h0] at h5
    simp only [Prod.mk.injEq] at h5
    obtain ⟨rfl, rfl⟩ := h5
    have hb := numsS_back [kindZ x.dir, x.quota, x.wr, (x.bs.length : Int)] (mk (numsB (nodeZ x))) (mk (numsB (blkZ x.bs))) true (fun z hz => hx.zs z (List.mem_append_left _ hz)) (by rw [mk_li, mk_li]; unfold nodeZ; rw [numsB_app])
    have h4' : numsS 4 (mk (numsB (nodeZ x)), true) = ([z0, z1, z2, (m : Int)], s5) := by simp [numsS, h1, h2, h3, h4]
    rw [show [kindZ x.dir, x.quota, x.wr, (x.bs.length : Int)].length = 4 from rfl, h4'] at hb
    simp only [Prod.mk.injEq, List.cons.injEq, and_true] at hb
    obtain ⟨⟨_, _, _, hmm⟩, hs5⟩ := hb
    have hml : x.bs.length = m := by omega
    refine k2 he rfl (nodeZ x) (by rw [nodeZ_len, hml]) hx.zs ?_
    simp only
    rw [mk_li]
theorem node_bad {part p : ByteArray} {z0 z1 z2 z3 : Int} {s1 s2 s3 s4 s5 : St} (h0 : txtS (part, true) = (p, s1)) (h1 : numS s1 = (z0, s2)) (h2 : numS s2 = (z1, s3)) (h3 : numS s3 = (z2, s4)) (h4 : numS s4 = (z3, s5)) (hk : ¬ ((0 ≤ z0 ∧ z0 ≤ 1) ∧ (0 ≤ z3 ∧ z3 ≤ 8))) : ∀ x, FitX x → part ≠ nodeP x := by
  intro x hx e
  have hl : part.data.toList = (textB x.path).data.toList ++ (mk (numsB (nodeZ x))).data.toList := by rw [e, nodeP_list, mk_li]
  have h5 := txtS_back (b := part) (r := mk (numsB (nodeZ x))) true hx.path hl
  rw [h0] at h5
  simp only [Prod.mk.injEq] at h5
  obtain ⟨rfl, rfl⟩ := h5
  have hb := numsS_back [kindZ x.dir, x.quota, x.wr, (x.bs.length : Int)] (mk (numsB (nodeZ x))) (mk (numsB (blkZ x.bs))) true (fun z hz => hx.zs z (List.mem_append_left _ hz)) (by rw [mk_li, mk_li]; unfold nodeZ; rw [numsB_app])
  have h4' : numsS 4 (mk (numsB (nodeZ x)), true) = ([z0, z1, z2, z3], s5) := by simp [numsS, h1, h2, h3, h4]
  rw [show [kindZ x.dir, x.quota, x.wr, (x.bs.length : Int)].length = 4 from rfl, h4'] at hb
  simp only [Prod.mk.injEq, List.cons.injEq, and_true] at hb
  obtain ⟨⟨r0, _, _, r3⟩, _⟩ := hb
  have h8 := hx.few
  apply hk
  constructor
  · rw [r0]; unfold kindZ; cases x.dir <;> simp
  · omega
end Go.Proofs.YtdilfbfkeiaafaaGreat.Img
namespace Go.Proofs.YtdilfbfkeiaafaaGreat.Spa
open Go.RowKit Go.Proofs.YtdilfbfkeiaafaaGreat
open Go.Proofs.YtdilfbfkeiaafaaGreat.Lea (LS Ls findX putL renX)
open Go.Proofs.YtdilfbfkeiaafaaGreat.Edi (Ed)
def pF : ByteArray := ⟨#[47, 102]⟩
def nF : ByteArray := ⟨#[102]⟩
theorem sF : splitX pF = ([nF], 0) := exP (good_of (by decide) (by decide) (by decide)) (by decide)
theorem xF : parentX pF = (rootP, nF, 0) := pxOf (ns := []) sF rfl
def ex1 : Ed := ⟨2, pF, ⟨#[]⟩, 1, 0, 0, []⟩
def ex2 : Ed := ⟨5, pF, ⟨#[]⟩, 1, 0, 0, []⟩
def ex3 : Ed := ⟨5, pF, ⟨#[]⟩, 2, 0, 0, []⟩
def ex4 : Ed := ⟨6, pF, ⟨#[]⟩, 1, 0, 0, [5]⟩
def ex5 : Ed := ⟨10, pF, ⟨#[]⟩, 2, 0, 0, []⟩
def fN (bs : List Blk) (c : Int) : Nd := ⟨pF, false, -1, bs, c⟩
theorem rt1 : Edi.Rt ex1 := ⟨by decide, by decide, by decide, by decide, by decide, by decide, by decide, by decide⟩
theorem rt2 : Edi.Rt ex2 := ⟨by decide, by decide, by decide, by decide, by decide, by decide, by decide, by decide⟩
theorem rt3 : Edi.Rt ex3 := ⟨by decide, by decide, by decide, by decide, by decide, by decide, by decide, by decide⟩
theorem rt4 : Edi.Rt ex4 := ⟨by decide, by decide, by decide, by decide, by decide, by decide, by decide, by decide⟩
theorem rt5 : Edi.Rt ex5 := ⟨by decide, by decide, by decide, by decide, by decide, by decide, by decide, by decide⟩
theorem is_f (bs : List Blk) (c : Int) : Is [rootN, fN bs c] pF 1 (fN bs c) :=
  ⟨bOf sF, at_is (by simp) rfl (fun j hj => by
    obtain rfl : j = 0 := by omega
    show rootP ≠ pF
    decide), rfl⟩
theorem fits_f : fitsB (newN ex1) = true := file_fits rfl (bOf sF) (by decide) rfl (by decide) (by decide) (fun b hb => by cases hb)
theorem a1 : AppE newS ex1 0 := by
  refine .does 0 new_right rt1 (by decide) (.made 0 (.inr rfl) (.ok (.ok new_right.tree fits_f (by decide) (at_no fun x hx => ?_) ?_ (by decide)) ?_))
  · rw [List.mem_singleton.1 hx]
    decide
  · show dirE [rootN] (parD pF) = 0
    rw [dOf xF]
    decide
  · show 1 ≤ roomI [rootN] (parD pF)
    rw [dOf xF]
    unfold roomI; rw [if_pos (by decide)]
    unfold roomF roomS; decide
def S1 : Sp := doS newS ex1
def S2 : Sp := doS S1 ex2
def S3 : Sp := doS S2 ex4
theorem r1 : RtS S1 := (app_keeps a1).2
theorem n1 : S1.ns = [rootN, fN [] 1] := by
  have h : nsOf newS ex1 = sortN ([rootN] ++ [newN ex1]) := if_pos (Or.inr rfl)
  show nsOf newS ex1 = _
  rw [h]
  refine (sortN_is (List.Perm.refl _) ?_).symm
  show Asc [rootN, newN ex1]
  unfold Asc; simp only [List.pairwise_cons, List.mem_cons, List.not_mem_nil, or_false]
  refine ⟨fun x hx => ?_, fun x hx => hx.elim, List.Pairwise.nil⟩
  subst hx; exact lt_lit (by decide)
theorem i1 : Is S1.ns pF 1 (fN [] 1) := by rw [n1]; exact is_f _ _
theorem a2 : AppE S1 ex2 0 :=
  .does 0 r1 rt2 (by decide) (.addb 0 rfl (.ok 1 (fN [] 1) ⟨i1, rfl, rfl⟩ ⟨rfl, fun l hl => by cases hl⟩ (by decide) (by decide) (by decide)))
theorem a3 : AppE S1 ex3 9 :=
  .does 9 r1 rt3 (by decide) (.addb 9 rfl (.writ 9 (.lease 1 (fN [] 1) i1 rfl (by decide)) (by decide)))
theorem r2 : RtS S2 := (app_keeps a2).2
theorem n2 : S2.ns = [rootN, fN [⟨1, 1, 0⟩] 1] := by
  have h : S2.ns = updN S1.ns pF (onN S1 ex2) := rfl
  rw [h, i1.upd, n1]
  rfl
theorem i2 : Is S2.ns pF 1 (fN [⟨1, 1, 0⟩] 1) := by rw [n2]; exact is_f _ _
theorem a4 : AppE S2 ex4 0 :=
  .does 0 r2 rt4 (by decide) (.comp 0 rfl (.ok 1 (fN [⟨1, 1, 0⟩] 1) ⟨i2, rfl, rfl⟩ ⟨rfl, fun l hl => by rw [List.mem_singleton.1 hl]; decide⟩))
theorem r3 : RtS S3 := (app_keeps a4).2
theorem n3 : S3.ns = [rootN, fN [⟨1, 1, 5⟩] (-1)] := by
  have h : S3.ns = updN S2.ns pF (onN S2 ex4) := rfl
  rw [h, i2.upd, n2]
  rfl
theorem i3 : Is S3.ns pF 1 (fN [⟨1, 1, 5⟩] (-1)) := by rw [n3]; exact is_f _ _
theorem a5 : AppE S3 ex5 0 :=
  .does 0 r3 rt5 (by decide) (.reop 0 rfl (.ok 1 (fN [⟨1, 1, 5⟩] (-1)) i3 rfl rfl))
end Go.Proofs.YtdilfbfkeiaafaaGreat.Spa
