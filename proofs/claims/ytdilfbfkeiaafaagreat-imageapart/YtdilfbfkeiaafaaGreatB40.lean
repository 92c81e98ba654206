/- Part 40 of the proof: SpaceFO, SpaceFP, SpaceFQ, SpaceFR, SpaceFV, SpaceFU, SpaceL1. -/
import Derived.Test.YtdilfbfkeiaafaaGreatB17
import Derived.Test.YtdilfbfkeiaafaaGreatB34
import Derived.Test.YtdilfbfkeiaafaaGreatB36
import Derived.Test.YtdilfbfkeiaafaaGreatB37
import Derived.Test.YtdilfbfkeiaafaaGreatB38
import Derived.Test.YtdilfbfkeiaafaaGreatB39
import Derived.Test.YtdilfbfkeiaafaaGreatB54
set_option maxRecDepth 100000
set_option maxHeartbeats 8000000
namespace Go.Proofs.YtdilfbfkeiaafaaGreat.Spa
open Go.RowKit Go.Proofs.YtdilfbfkeiaafaaGreat
open Go.Proofs.YtdilfbfkeiaafaaGreat.Lea (LS Ls findX putL renX LL LO LsR lsC wideL)
open Go.Proofs.YtdilfbfkeiaafaaGreat.Edi (Ed Nm EdAt edV)
def doT (s : Sp) (e : Ed) : Sp := ⟨s.tx, (doS s e).nb, (doS s e).ng, (doS s e).now, (doS s e).ns, (doS s e).ls⟩
theorem new1 {e : Ed} (hk : e.k = 1) : newN e = ⟨e.p, true, -1, [], -1⟩ := by unfold newN; rw [if_neg (by omega), decide_eq_true hk]
theorem num9 {e : Ed} (he : Edi.Rt e) (hk : e.k = 9) : 0 ≤ e.n := by
  have := (Edi.inB_iff.1 he.num).1
  rw [hk] at this
  simpa [Edi.loN] using this
theorem Pre.pos {base M0 S : Nat} {w : World} {s : Sp} {N L : RS} {ps : List NR} {gb : Nat} {gl : Option Nat} (h : Pre base M0 S w s N L ps gb gl) (hR : RtS s) : 0 < ps.length := by
  have h1 := congrArg List.length h.own.map
  rw [List.length_map] at h1
  rw [h1]
  exact hR.tree.pos
theorem small_p {e : Ed} (he : Edi.Rt e) : e.p.size ≤ maxLen := Nat.le_trans he.path (by decide)
theorem small_t {e : Ed} (he : Edi.Rt e) : e.t.size ≤ maxLen := Nat.le_trans (Nat.le_trans he.to (Edi.toM_le _)) (by decide)
theorem eight {s : Sp} {e : Ed} (hR : RtS s) {i : Nat} {x : Nd} (hw : Wr s e i x) : x.bs.length ≤ 8 := (file_of (hR.tree.fit x hw.is.mem) hw.dir).2.2.2.2.1
theorem change_no {base M0 S : Nat} {w : World} {s : Sp} {N L : RS} {ps : List NR} {gb : Nat} {gl : Option Nat} (h : Pre base M0 S w s N L ps gb gl) (e : Ed) (ea : Option Addr) (em eq : Nat) (hn : Nm w ea em e.ls) (hnb : ∀ ad, ea = some ad → 0 < em → ad.block < base) (hR : RtS s) (he : Edi.Rt e) (E : Int) (hd : DoE s e E) (h0 : E ≠ 0) :
    Calls Tryz.prog 29 #[.pointer (some ⟨S, 0, none⟩), edV e ea em eq] w fun r w' => LeftR S base M0 E w r w' := by
  have hp := h.pos hR
  have hs := small_p he
  have ht := small_t he
  cases hd with
  | made k hm =>
    cases hm with
    | add _ hA _ =>
      rcases k with k | k
      · rw [new1 k] at hA
        exact change_mkdir_no h e ea em eq k E (fun W hb => add_no (h.below hb) hp _ (noS_ok W _ rfl hs) E hA h0)
      · exact change_create_no h e ea em eq k E (fun W hb => create_add (h.below hb) e ea em eq hp hs k E hA h0)
    | full hA hr =>
      rcases k with k | k
      · rw [new1 k] at hA
        exact change_mkdir_no h e ea em eq k 8 (fun W hb => add_full (h.below hb) hp _ (noS_ok W _ rfl hs) hA hR.tree hr)
      · exact change_create_no h e ea em eq k 8 (fun W hb => create_full (h.below hb) e ea em eq hp hs k hR.tree hA hr)
    | ok _ _ => exact absurd rfl h0
  | rem k hm => exact change_delete_no h e ea em eq k hp hs E hm h0
  | ren k hm =>
    cases hm with
    | mov _ hM _ => exact change_rename_no h e ea em eq k E (fun W hb => rename_mov (h.below hb) e ea em eq hp hs ht E hM h0)
    | full hM ho => exact change_rename_no h e ea em eq k 8 (fun W hb => rename_full (h.below hb) e ea em eq hp hs ht hM ho)
    | ok _ _ => exact absurd rfl h0
  | addb k hm =>
    cases hm with
    | writ _ hE _ => exact change_addBlock_no h e ea em eq k E (fun W hb => addBlock_writ (h.below hb) e ea em eq hs E hE h0 hp)
    | arg i x hw hl => exact change_addBlock_no h e ea em eq k 1 (fun W hb => addBlock_lens (h.below hb) e ea em eq (hn.below hb) hnb hs i x hw hl (eight hR hw))
    | long i x hw hl hx => exact change_addBlock_no h e ea em eq k 4 (fun W hb => addBlock_long (h.below hb) e ea em eq (hn.below hb) hnb hs i x hw hl (eight hR hw) hx)
    | ok _ _ _ _ _ _ _ => exact absurd rfl h0
  | comp k hm =>
    cases hm with
    | writ _ hE _ => exact change_complete_no h e ea em eq k E (fun W hb => complete_writ (h.below hb) e ea em eq hs E hE h0 hp)
    | arg i x hw hl => exact change_complete_no h e ea em eq k 1 (fun W hb => complete_lens (h.below hb) e ea em eq (hn.below hb) hnb hs i x hw hl (eight hR hw))
    | ok _ _ _ _ => exact absurd rfl h0
  | setq k hm =>
    cases hm with
    | node _ hE _ => exact change_setQuota_no h e ea em eq k E (fun W hb => setQuota_node (h.below hb) e ea em eq hs E hE h0 hp)
    | dir i x hi hd => exact change_setQuota_no h e ea em eq k 7 (fun W hb => setQuota_dir (h.below hb) e ea em eq hs i x hi hd)
    | full i x hi hd h1 h2 => exact change_setQuota_no h e ea em eq k 8 (fun W hb => setQuota_full (h.below hb) e ea em eq hs hR.tree i x hi hd h1 h2)
    | ok _ _ _ _ _ => exact absurd rfl h0
  | rnw k hm =>
    cases hm with
    | arg hx => exact change_renew_no h e ea em eq k 1 (fun W hb => renew_no (h.below hb) e ea em eq hx)
    | ok _ _ => exact absurd rfl h0
  | bump k hm =>
    have h9 := num9 he k
    cases hm with
    | writ _ hE _ => exact change_bump_no h e ea em eq k E (fun W hb => bump_writ (h.below hb) e ea em eq hs E hE h0 hp)
    | arg i x hw hl => exact change_bump_no h e ea em eq k 1 (fun W hb => bump_arg (h.below hb) e ea em eq hs i x hw hl)
    | long i x hw hl hg => exact change_bump_no h e ea em eq k 4 (fun W hb => bump_long (h.below hb) e ea em eq hs i x hw e.n.toNat (by omega) (by omega) hg)
    | ok _ _ _ _ _ => exact absurd rfl h0
  | reop k hm =>
    cases hm with
    | file _ hE _ => exact change_reopen_no h e ea em eq k E (fun W hb => reopen_file (h.below hb) e ea em eq hs E hE h0 hp)
    | lease i x hi hd hw => exact change_reopen_no h e ea em eq k 9 (fun W hb => reopen_lease (h.below hb) e ea em eq hs i x hi hd hw)
    | ok _ _ _ _ _ => exact absurd rfl h0
theorem doT_made {s : Sp} {e : Ed} (k : e.k = 1) : doT s e = ⟨s.tx, s.nb, s.ng, s.now, sortN (s.ns ++ [newN e]), s.ls⟩ ∧ blkOf s e = zeroB ∧ ndOf s e = zeroN := by
  refine ⟨?_, ?_, ?_⟩
  · unfold doT doS lsOf nowOf nsOf
    simp only [k]
    simp
  · unfold blkOf; simp [k]
  · unfold ndOf; simp [k]
theorem doT_create {s : Sp} {e : Ed} (k : e.k = 2) : doT s e = ⟨s.tx, s.nb, s.ng, s.now, sortN (s.ns ++ [newN e]), (renX s.ls e.c s.now).1⟩ ∧ blkOf s e = zeroB ∧ ndOf s e = newN e := by
  refine ⟨?_, ?_, ?_⟩
  · unfold doT doS lsOf nowOf nsOf
    simp only [k]
    simp
  · unfold blkOf; simp [k]
  · unfold ndOf; simp [k]
theorem doT_rem {s : Sp} {e : Ed} (k : e.k = 3) : doT s e = ⟨s.tx, s.nb, s.ng, s.now, leftL s.ns e.p, s.ls⟩ ∧ blkOf s e = zeroB ∧ ndOf s e = zeroN := by
  refine ⟨?_, ?_, ?_⟩
  · unfold doT doS lsOf nowOf nsOf
    simp only [k]
    simp
  · unfold blkOf; simp [k]
  · unfold ndOf; simp [k]
theorem doT_ren {s : Sp} {e : Ed} (k : e.k = 4) : doT s e = ⟨s.tx, s.nb, s.ng, s.now, movL s.ns e.p e.t, s.ls⟩ ∧ blkOf s e = zeroB ∧ ndOf s e = zeroN := by
  refine ⟨?_, ?_, ?_⟩
  · unfold doT doS lsOf nowOf nsOf
    simp only [k]
    simp
  · unfold blkOf; simp [k]
  · unfold ndOf; simp [k]
theorem doT_addb {s : Sp} {e : Ed} (k : e.k = 5) {i : Nat} {x : Nd} (hi : Is s.ns e.p i x) : doT s e = ⟨s.tx, s.nb + 1, s.ng + 1, s.now, s.ns.set i (withBs x (setLens x.bs e.ls ++ [⟨s.nb, s.ng, 0⟩])), s.ls⟩ ∧ blkOf s e = ⟨s.nb, s.ng, 0⟩ ∧ ndOf s e = withBs x (setLens x.bs e.ls ++ [⟨s.nb, s.ng, 0⟩]) := by
  refine ⟨?_, ?_, ?_⟩
  · unfold doT doS lsOf nowOf nsOf
    rw [hi.upd]
    unfold onN; simp only [k]
    simp
  · unfold blkOf; simp [k]
  · unfold ndOf onN; rw [hi.nodeOr]; simp [k]
theorem doT_comp {s : Sp} {e : Ed} (k : e.k = 6) {i : Nat} {x : Nd} (hi : Is s.ns e.p i x) : doT s e = ⟨s.tx, s.nb, s.ng, s.now, s.ns.set i (withWr (withBs x (setLens x.bs e.ls)) (-1)), s.ls⟩ ∧ blkOf s e = zeroB ∧ ndOf s e = withWr (withBs x (setLens x.bs e.ls)) (-1) := by
  refine ⟨?_, ?_, ?_⟩
  · unfold doT doS lsOf nowOf nsOf
    rw [hi.upd]
    unfold onN; simp only [k]
    simp
  · unfold blkOf; simp [k]
  · unfold ndOf onN; rw [hi.nodeOr]; simp [k]
theorem doT_setq {s : Sp} {e : Ed} (k : e.k = 7) {i : Nat} {x : Nd} (hi : Is s.ns e.p i x) : doT s e = ⟨s.tx, s.nb, s.ng, s.now, s.ns.set i (withQu x e.n), s.ls⟩ ∧ blkOf s e = zeroB ∧ ndOf s e = zeroN := by
  refine ⟨?_, ?_, ?_⟩
  · unfold doT doS lsOf nowOf nsOf
    rw [hi.upd]
    unfold onN; simp only [k]
    simp
  · unfold blkOf; simp [k]
  · unfold ndOf; simp [k]
theorem doT_rnw {s : Sp} {e : Ed} (k : e.k = 8) : doT s e = ⟨s.tx, s.nb, s.ng, e.n, s.ns, (renX s.ls e.c e.n).1⟩ ∧ blkOf s e = zeroB ∧ ndOf s e = zeroN := by
  have hu : updN s.ns e.p (onN s e) = s.ns := updN_self _ _ _ (fun x _ => by unfold onN; simp [k])
  refine ⟨?_, ?_, ?_⟩
  · unfold doT doS lsOf nowOf nsOf
    rw [hu]
    simp only [k]
    simp
  · unfold blkOf; simp [k]
  · unfold ndOf; simp [k]
theorem doT_bump {s : Sp} {e : Ed} (k : e.k = 9) {i : Nat} {x : Nd} (hi : Is s.ns e.p i x) (hl : e.n.toNat < x.bs.length) : doT s e = ⟨s.tx, s.nb, s.ng + 1, s.now, s.ns.set i (withBs x (setGen x.bs e.n.toNat s.ng)), s.ls⟩ ∧ blkOf s e = ⟨x.bs[e.n.toNat].id, s.ng, x.bs[e.n.toNat].len⟩ ∧ ndOf s e = withBs x (setGen x.bs e.n.toNat s.ng) := by
  refine ⟨?_, ?_, ?_⟩
  · unfold doT doS lsOf nowOf nsOf
    rw [hi.upd]
    unfold onN; simp only [k]
    simp
  · unfold blkOf
    rw [hi.nodeOr, if_neg (by omega), if_pos k, setGen_set _ _ _ hl, List.getD_eq_getElem?_getD, List.getElem?_set_self hl]
    rfl
  · unfold ndOf onN; rw [hi.nodeOr]; simp [k]
theorem doT_reop {s : Sp} {e : Ed} (k : e.k = 10) {i : Nat} {x : Nd} (hi : Is s.ns e.p i x) : doT s e = ⟨s.tx, s.nb, s.ng, s.now, s.ns.set i (withWr x e.c), (renX s.ls e.c s.now).1⟩ ∧ blkOf s e = zeroB ∧ ndOf s e = withWr x e.c := by
  refine ⟨?_, ?_, ?_⟩
  · unfold doT doS lsOf nowOf nsOf
    rw [hi.upd]
    unfold onN; simp only [k]
    simp
  · unfold blkOf; simp [k]
  · unfold ndOf onN; rw [hi.nodeOr]; simp [k]
theorem change_ok {base M0 S : Nat} {w : World} {s : Sp} {N L : RS} {ps : List NR} {gb : Nat} {gl : Option Nat} (h : Pre base M0 S w s N L ps gb gl) (e : Ed) (ea : Option Addr) (em eq : Nat) (hn : Nm w ea em e.ls) (hnb : ∀ ad, ea = some ad → 0 < em → ad.block < base) (hR : RtS s) (he : Edi.Rt e) (hrm : ∀ x ∈ ps, Rm w x.2) (hd : DoE s e 0) :
    Calls Tryz.prog 29 #[.pointer (some ⟨S, 0, none⟩), edV e ea em eq] w fun r w' => DoneR S base M0 (doT s e) (blkOf s e) (ndOf s e) w r w' := by
  have hp := h.pos hR
  have hs := small_p he
  have ht := small_t he
  have hc := client_of he
  cases hd with
  | made k hm =>
    cases hm with
    | add _ _ h0 => exact absurd rfl h0
    | ok hA hr =>
      rcases k with k | k
      · obtain ⟨e1, e2, e3⟩ := doT_made (s := s) k
        rw [e1, e2, e3]
        rw [new1 k] at hA ⊢
        exact change_mkdir h e ea em eq k _ (fun W hb => add_ok (h.below hb) hp _ (noS_ok W _ rfl hs) hA hR.tree hr)
      · obtain ⟨e1, e2, e3⟩ := doT_create (s := s) k
        rw [e1, e2, e3]
        exact change_create h e ea em eq k _ _ _ (fun W hb => create_ok (h.below hb) e ea em eq hp hs k hR.tree hA hr _ (rnw_of hR.ls hc hR.now.1 hR.now.2).eq)
  | rem k hm =>
    obtain ⟨e1, e2, e3⟩ := doT_rem (s := s) k
    rw [e1, e2, e3]
    exact change_delete h e ea em eq k hp hs hm
  | ren k hm =>
    cases hm with
    | mov _ _ h0 => exact absurd rfl h0
    | ok hM ho =>
      obtain ⟨e1, e2, e3⟩ := doT_ren (s := s) k
      rw [e1, e2, e3]
      exact change_rename h e ea em eq k _ (fun W hb => rename_ok (h.below hb) e ea em eq hp hs ht hM ho)
  | addb k hm =>
    cases hm with
    | writ _ _ h0 => exact absurd rfl h0
    | ok i x hw hl h8 h1 h2 =>
      obtain ⟨e1, e2, e3⟩ := doT_addb k hw.is
      have h88 := eight hR hw
      have hb1 := hR.nb
      have hb2 := hR.ng
      rw [e1, e2, e3]
      exact change_addBlock h e ea em eq k _ _ _ (fun W hb => addBlock_ok (h.below hb) e ea em eq (hn.below hb) hnb hs i x hw hl (by omega) (fun x hx => (hrm x hx).below hb) ⟨by omega, by omega⟩ ⟨by omega, by omega⟩)
  | comp k hm =>
    cases hm with
    | writ _ _ h0 => exact absurd rfl h0
    | ok i x hw hl =>
      obtain ⟨e1, e2, e3⟩ := doT_comp k hw.is
      rw [e1, e2, e3]
      exact change_complete h e ea em eq k _ _ _ (fun W hb => complete_ok (h.below hb) e ea em eq (hn.below hb) hnb hs i x hw hl (eight hR hw))
  | setq k hm =>
    cases hm with
    | node _ _ h0 => exact absurd rfl h0
    | ok i x hi hd hq =>
      obtain ⟨e1, e2, e3⟩ := doT_setq k hi
      rw [e1, e2, e3]
      exact change_setQuota h e ea em eq k _ (fun W hb => setQuota_ok (h.below hb) e ea em eq hs hR.tree i x hi hd hq)
  | rnw k hm =>
    cases hm with
    | ok h1 h2 =>
      obtain ⟨e1, e2, e3⟩ := doT_rnw (s := s) k
      have hnow := hR.now
      rw [e1, e2, e3]
      exact change_renew h e ea em eq k _ (fun W hb => renew_ok (h.below hb) e ea em eq h1 h2 _ (rnw_of hR.ls hc (by omega) h2).eq)
  | bump k hm =>
    have h9 := num9 he k
    cases hm with
    | writ _ _ h0 => exact absurd rfl h0
    | ok i x hw hl hg =>
      have hj : e.n.toNat < x.bs.length := by omega
      obtain ⟨e1, e2, e3⟩ := doT_bump k hw.is hj
      rw [e1, e2, e3]
      exact change_bump h e ea em eq k _ _ _ (fun W hb => bump_ok (h.below hb) e ea em eq hs i x hw (eight hR hw) e.n.toNat (by omega) hj hg hR.ng)
  | reop k hm =>
    cases hm with
    | file _ _ h0 => exact absurd rfl h0
    | ok i x hi hd hw =>
      obtain ⟨e1, e2, e3⟩ := doT_reop k hi
      rw [e1, e2, e3]
      exact change_reopen h e ea em eq k _ _ _ (fun W hb => reopen_ok (h.below hb) e ea em eq hs i x hi hd hw (file_of (hR.tree.fit x hi.mem) hd).2.2.2.2.1 _ (rnw_of hR.ls hc hR.now.1 hR.now.2).eq)
theorem four_boxes {w w1 : World} {cs ds fs gs : Array Value} {t1 t2 t3 t4 : TypeId} (hb : Below ((((w.alloc (.cells cs t1)).alloc (.cells ds t2)).alloc (.cells fs t3)).alloc (.cells gs t4)).heap.size ((((w.alloc (.cells cs t1)).alloc (.cells ds t2)).alloc (.cells fs t3)).alloc (.cells gs t4)) w1) :
    (∀ j v, cs[j]? = some v → w1.cell? ⟨w.heap.size, j, none⟩ = some v) ∧ (∀ j v, ds[j]? = some v → w1.cell? ⟨w.heap.size + 1, j, none⟩ = some v) ∧ (∀ j v, fs[j]? = some v → w1.cell? ⟨w.heap.size + 1 + 1, j, none⟩ = some v) ∧ (∀ j, w1.frozen? ⟨w.heap.size + 1 + 1, j, none⟩ = false) ∧ (∀ j v, gs[j]? = some v → w1.cell? ⟨w.heap.size + 1 + 1 + 1, j, none⟩ = some v) ∧ (∀ j, w1.frozen? ⟨w.heap.size + 1 + 1 + 1, j, none⟩ = false) ∧ Below w.heap.size w w1 ∧ w.heap.size + 4 ≤ w1.heap.size := by
  have hz : ((w.alloc (.cells cs t1)).alloc (.cells ds t2)).heap.size = w.heap.size + 1 + 1 := by simp
  obtain ⟨q1, q2, q3, q4, q5, q6⟩ := two_boxes hb
  obtain ⟨r1, r2, r3, r4, r5, r6⟩ := two_boxes q5
  rw [hz] at q1 q2 q3 q4 q6
  exact ⟨r1, r3, q1, q2, q3, q4, r5, by omega⟩
theorem apply_caught {w W : World} {E : Int} {s0 : Sp} {N0 L0 : RS} {E0 : Int} {b0 : Blk} {T0 : RS} {x0 : NR} {n0 : Int} {tmps : Array Value} (hR : SpC W (w.heap.size + 1 + 1) s0 N0 L0) (hA : AnC W (w.heap.size + 1 + 1 + 1) E0 b0 T0 x0 n0) (hb : Below w.heap.size w W) (h4 : tmps[4]? = some (.pointer (some ⟨w.heap.size + 1 + 1, 0, none⟩))) (h5 : tmps[5]? = some (.pointer (some ⟨w.heap.size + 1 + 1 + 1, 0, none⟩))) :
    Leaves Tryz.prog Tryz.f11 tmps (fun r w' => r = .returned (.tuple #[spV zeroS noS noS, anV E zeroB noS zeroX 0]) ∧ Below w.heap.size w w') [{ target := .fn (.func 23) #[.pointer (some ⟨w.heap.size + 1 + 1, 0, none⟩), .pointer (some ⟨w.heap.size + 1 + 1 + 1, 0, none⟩)], args := #[] }] (.panicking [{ v := .iface 29 (.int .i64 E), recovered := false }]) W := by
  refine leaves_cons (f := 23) (args := #[.pointer (some ⟨w.heap.size + 1 + 1, 0, none⟩), .pointer (some ⟨w.heap.size + 1 + 1 + 1, 0, none⟩)]) (by simp) (by simp [go_sem]) ?_
  refine (catch_panic hR hA (by omega) E []).mono ?_
  rintro e u' w' ⟨rfl, rfl, rfl⟩
  obtain ⟨p1, p2⟩ := put6_at hR zeroS noS noS
  obtain ⟨a1, a2⟩ := put11_at (hA.keep p2 (by omega)) E zeroB noS zeroX 0
  have p3 := p1.keep a2 (by omega)
  have hB : Below w.heap.size w (put11 (put6 W (w.heap.size + 1 + 1) zeroS noS noS) (w.heap.size + 1 + 1 + 1) E zeroB noS zeroX 0) := ((Stay.of_below (O := fun k => w.heap.size ≤ k) hb).then_same ((p2.mono (fun k hk => by omega)).then_same (a2.mono (fun k hk => by omega)))).below (Nat.le_refl _) (fun k hk => hk)
  have HB : Hid _ := hB
  clear hB a2 p2 p1 hR hA hb; generalize put11 (put6 W (w.heap.size + 1 + 1) zeroS noS noS) (w.heap.size + 1 + 1 + 1) E zeroB noS zeroX 0 = W2 at *
  obtain ⟨k0, k1, k2, k3, k4, k5, k6, k7, k8, k9, k10, _⟩ := a1
  obtain ⟨j0, j1, j2, j3, j4, j5, _⟩ := p3
  unfold spV anV; refine ⟨.tuple #[_, _], ?_, rfl, HB.out⟩
  simp only [results, Tryz.results11]
  simp [go_sem, h4, h5, k0, k1, k2, k3, k4, k5, k6, k7, k8, k9, k10, j0, j1, j2, j3, j4, j5]
theorem apply_arg {s : Sp} {N L : RS} {w : World} (h : SpIn w s N L) (e : Ed) (ea : Option Addr) (em eq : Nat) (hn : Nm w ea em e.ls) (hx : ¬ (RtS s ∧ Edi.Rt e)) :
    Calls Tryz.prog 11 #[spV s N L, edV e ea em eq] w fun r w' => r = .returned (.tuple #[spV zeroS noS noS, anV 1 zeroB noS zeroX 0]) ∧ Below w.heap.size w w' := by
  have hmf : ∀ (fn : Fn) (first cap : Array Value) (w : World), (Instr.makeFunc fn first cap).run Tryz.prog w = .ok (.func fn first cap) w := fun _ _ _ _ => rfl
  obtain ⟨u, hu⟩ : ∃ u : Bool, u = true ↔ RtS s := by classical exact ⟨decide (RtS s), decide_eq_true_iff⟩
  obtain ⟨v, hv⟩ : ∃ v : Bool, v = true ↔ Edi.Rt e := by classical exact ⟨decide (Edi.Rt e), decide_eq_true_iff⟩
  have CS : Hid (∀ W, Below w.heap.size w W → Calls Tryz.prog 26 #[spV s N L] W fun e w' => e = .returned (.bool u) ∧ Below W.heap.size W w') := fun W hb => rightS_val (h.below hb) u hu
  have CE : Hid (∀ W, Below w.heap.size w W → Calls Tryz.prog 27 #[edV e ea em eq] W fun x w' => x = .returned (.bool v) ∧ Below W.heap.size W w') := fun W hb => Edi.right_val (hn.below hb) v hv
  have hor : u = false ∨ (u = true ∧ v = false) := by
    cases u with
    | false => exact .inl rfl
    | true => cases v with
      | false => exact .inr ⟨rfl, rfl⟩
      | true => exact absurd ⟨hu.1 rfl, hv.1 rfl⟩ hx
  clear h hn hx hu hv; obtain ⟨k, p, t, cl, l, nn, ls⟩ := e
  obtain ⟨tx, nb, ng, now, ns, lss⟩ := s
  unfold edV at CE ⊢
  unfold spV at CS; rw [show spV ⟨tx, nb, ng, now, ns, lss⟩ N L = .agg #[.int .i64 tx, .int .i64 nb, .int .i64 ng, .int .i64 now, .slice N.a N.n N.c, .slice L.a L.n L.c] from rfl]
  simp only at CE CS ⊢
  have hst := run_store_str
  have hst2 := sto2
  have CR : Hid (∀ E W, Calls Tryz.prog 25 #[.bool true, .int .i64 E] W fun e w' => e = leftV E ∧ W = w') := fun E W => (refuse_yes E W).mono fun e w' ⟨h1, h2⟩ => ⟨h1, h2.symm⟩
  rcases hor with rfl | ⟨rfl, rfl⟩
  · go_enter_defers Tryz.func11, Tryz.ntmps11
    go_wp2_with (first
      | (go_at_call 26; refine (CS.out _ (bel_tr (bel_tr (bel_al _ _) (bel_al _ _)) (bel_tr (bel_al _ _) (bel_al _ _)))).mono ?_; rintro e w1 ⟨rfl, c1⟩; obtain ⟨q1, q2, q3, q4, q5, q6, q7, q8⟩ := four_boxes c1; have y0 := q2 0 _ rfl; have y1 := q2 1 _ rfl; have y2 := q2 2 _ rfl; have y3 := q2 3 _ rfl; have y4 := q2 4 _ rfl; have y5 := q2 5 _ rfl; have y6 := q2 6 _ rfl; have z0 := q1 0 _ rfl; have z1 := q1 1 _ rfl; have z2 := q1 2 _ rfl; have z3 := q1 3 _ rfl; have z4 := q1 4 _ rfl; have z5 := q1 5 _ rfl; have B1 : Hid (Below w.heap.size w w1) := q7; have HSP : Hid (SpC w1 (w.heap.size + 1 + 1) zeroS noS noS) := ⟨q3 0 _ rfl, q3 1 _ rfl, q3 2 _ rfl, q3 3 _ rfl, q3 4 _ rfl, q3 5 _ rfl, q4⟩; have HAN : Hid (AnC w1 (w.heap.size + 1 + 1 + 1) 0 zeroB noS zeroX 0) := ⟨q5 0 _ rfl, q5 1 _ rfl, q5 2 _ rfl, q5 3 _ rfl, q5 4 _ rfl, q5 5 _ rfl, q5 6 _ rfl, q5 7 _ rfl, q5 8 _ rfl, q5 9 _ rfl, q5 10 _ rfl, q6⟩; have HSZ : Hid (w.heap.size + 4 ≤ w1.heap.size) := q8; clear c1 q1 q2 q3 q4 q5 q6 q7 q8)
      | (go_at_call 25; refine (CR.out _ _).mono ?_; rintro e w3 ⟨rfl, rfl⟩))
    exact apply_caught HSP.out HAN.out B1.out rfl rfl
  · go_enter_defers Tryz.func11, Tryz.ntmps11
    go_wp2_with (first
      | (go_at_call 26; refine (CS.out _ (bel_tr (bel_tr (bel_al _ _) (bel_al _ _)) (bel_tr (bel_al _ _) (bel_al _ _)))).mono ?_; rintro e w1 ⟨rfl, c1⟩; obtain ⟨q1, q2, q3, q4, q5, q6, q7, q8⟩ := four_boxes c1; have y0 := q2 0 _ rfl; have y1 := q2 1 _ rfl; have y2 := q2 2 _ rfl; have y3 := q2 3 _ rfl; have y4 := q2 4 _ rfl; have y5 := q2 5 _ rfl; have y6 := q2 6 _ rfl; have z0 := q1 0 _ rfl; have z1 := q1 1 _ rfl; have z2 := q1 2 _ rfl; have z3 := q1 3 _ rfl; have z4 := q1 4 _ rfl; have z5 := q1 5 _ rfl; have B1 : Hid (Below w.heap.size w w1) := q7; have HSP : Hid (SpC w1 (w.heap.size + 1 + 1) zeroS noS noS) := ⟨q3 0 _ rfl, q3 1 _ rfl, q3 2 _ rfl, q3 3 _ rfl, q3 4 _ rfl, q3 5 _ rfl, q4⟩; have HAN : Hid (AnC w1 (w.heap.size + 1 + 1 + 1) 0 zeroB noS zeroX 0) := ⟨q5 0 _ rfl, q5 1 _ rfl, q5 2 _ rfl, q5 3 _ rfl, q5 4 _ rfl, q5 5 _ rfl, q5 6 _ rfl, q5 7 _ rfl, q5 8 _ rfl, q5 9 _ rfl, q5 10 _ rfl, q6⟩; have HSZ : Hid (w.heap.size + 4 ≤ w1.heap.size) := q8; clear c1 q1 q2 q3 q4 q5 q6 q7 q8)
      | (go_at_call 27; refine (CE.out _ B1.out).mono ?_; rintro e w2 ⟨rfl, c2⟩; have B2 : Hid (Below w1.heap.size w1 w2) := c2; clear c2)
      | (go_at_call 25; refine (CR.out _ _).mono ?_; rintro e w3 ⟨rfl, rfl⟩))
    exact apply_caught (HSP.out.below B2.out) (HAN.out.below B2.out) (bel_tr B1.out B2.out) rfl rfl
theorem bs_few {x : Nd} (h : fitsB x = true) : x.bs.length ≤ 8 := by
  cases hd : x.dir with
  | false => exact (file_of h hd).2.2.2.2.1
  | true => rw [(dir_of h hd).2.1]; exact Nat.zero_le _
theorem copied_right {s : Sp} {N L : RS} {w : World} (h : SpIn w s N L) (hR : RtS s) : Calls Tryz.prog 28 #[spV s N L] w fun e w' => CopiedR w.heap.size s e w' ∧ Below w.heap.size w w' := by
  obtain ⟨b, off, ps, hm, hl, hn⟩ := h.nl.ex
  have h60 := hR.tree.few
  have hlen : ps.length = N.n := by rw [← hl, ← hm, List.length_map]
  have h4 := hR.ls.few
  have h4b := h.ll.len
  refine copied_space hn hm hlen h.nil h.ll ⟨by omega, by omega, fun x hx => ?_⟩
  have h1 := (hn.ok x hx).bs.len
  have h2 := bs_few (hR.tree.fit x.1 (by rw [← hm]; exact List.mem_map_of_mem hx))
  omega
theorem nm_lt {w : World} {a : Option Addr} {m : Nat} {zs : List Int} (h : Nm w a m zs) (ad : Addr) (ha : a = some ad) (hp : 0 < m) : ad.block < w.heap.size := by
  obtain ⟨b, off, h1, h2⟩ := h.at hp
  rw [ha] at h1
  cases h1
  exact World.block_lt_of_cell? _ _ (h2 0 (by rw [h.len]; exact hp))
theorem put6_below {w w3 : World} {s0 : Sp} {N0 L0 : RS} (hb : Below w.heap.size w w3) (hS : SpC w3 (w.heap.size + 1 + 1) s0 N0 L0) (s : Sp) (N L : RS) : Below w.heap.size w (put6 w3 (w.heap.size + 1 + 1) s N L) :=
  ((Stay.of_below (O := fun k => w.heap.size ≤ k) hb).then_same ((put6_at hS s N L).2.mono (fun k hk => by omega))).below (Nat.le_refl _) (fun k hk => hk)
theorem pre_copied {w w2 w3 : World} {s s0 : Sp} {N0 L0 N L : RS} {ps : List NR} {g gl : Option Nat} (hR : RtS s) (hS : SpC w3 (w.heap.size + 1 + 1) s0 N0 L0) (h4 : w.heap.size + 4 ≤ w2.heap.size) (h23 : w2.heap.size ≤ w3.heap.size) (hO : Own w2.heap.size w3 s N L ps g gl) :
    ∃ gb, Pre w2.heap.size (put6 w3 (w.heap.size + 1 + 1) s N L).heap.size (w.heap.size + 1 + 1) (put6 w3 (w.heap.size + 1 + 1) s N L) s N L ps gb gl := by
  obtain ⟨p1, p2⟩ := put6_at hS s N L
  have h1 := congrArg List.length hO.map
  rw [List.length_map] at h1
  have hpos := hR.tree.pos
  have hlen := hO.lot.len
  obtain ⟨gb, ha, rfl⟩ := hO.lot.cel.at2 (by omega)
  have hO2 := hO.out p2 (fun k hk => by omega)
  exact ⟨gb, preOf p1 hO2 ha (by omega) (Nat.le_trans h23 p2.size)⟩
theorem apply_long {s : Sp} {N L : RS} {w : World} (h : SpIn w s N L) (e : Ed) (ea : Option Addr) (em eq : Nat) (hn : Nm w ea em e.ls) (hR : RtS s) (he : Edi.Rt e) (ht : s.tx = 300) :
    Calls Tryz.prog 11 #[spV s N L, edV e ea em eq] w fun r w' => r = .returned (.tuple #[spV zeroS noS noS, anV 4 zeroB noS zeroX 0]) ∧ Below w.heap.size w w' := by
  have hmf : ∀ (fn : Fn) (first cap : Array Value) (w : World), (Instr.makeFunc fn first cap).run Tryz.prog w = .ok (.func fn first cap) w := fun _ _ _ _ => rfl
  have CS : Hid (∀ W, Below w.heap.size w W → Calls Tryz.prog 26 #[spV s N L] W fun e w' => e = .returned (.bool true) ∧ Below W.heap.size W w') := fun W hb => rightS_val (h.below hb) true ⟨fun _ => hR, fun _ => rfl⟩
  have CE : Hid (∀ W, Below w.heap.size w W → Calls Tryz.prog 27 #[edV e ea em eq] W fun x w' => x = .returned (.bool true) ∧ Below W.heap.size W w') := fun W hb => Edi.right_val (hn.below hb) true ⟨fun _ => he, fun _ => rfl⟩
  have CF : Hid (∀ E W, Calls Tryz.prog 25 #[.bool false, .int .i64 E] W fun e w' => e = .returned (.tuple #[]) ∧ W = w') := fun E W => (refuse_no E W).mono fun e w' ⟨h1, h2⟩ => ⟨h1, h2.symm⟩
  have CR : Hid (∀ E W, Calls Tryz.prog 25 #[.bool true, .int .i64 E] W fun e w' => e = leftV E ∧ W = w') := fun E W => (refuse_yes E W).mono fun e w' ⟨h1, h2⟩ => ⟨h1, h2.symm⟩
  clear h hn hR he; obtain ⟨k, p, t, cl, l, nn, ls⟩ := e
  obtain ⟨tx, nb, ng, now, ns, lss⟩ := s
  unfold edV at CE ⊢
  unfold spV at CS ; rw [show spV ⟨tx, nb, ng, now, ns, lss⟩ N L = .agg #[.int .i64 tx, .int .i64 nb, .int .i64 ng, .int .i64 now, .slice N.a N.n N.c, .slice L.a L.n L.c] from rfl]
  simp only at CE CS ht ⊢
  have hst := run_store_str
  have hst2 := sto2
  subst ht; go_enter_defers Tryz.func11, Tryz.ntmps11
  go_wp2_with (first
    | (go_at_call 26; refine (CS.out _ (bel_tr (bel_tr (bel_al _ _) (bel_al _ _)) (bel_tr (bel_al _ _) (bel_al _ _)))).mono ?_; rintro e w1 ⟨rfl, c1⟩; obtain ⟨q1, q2, q3, q4, q5, q6, q7, q8⟩ := four_boxes c1; have y0 := q2 0 _ rfl; have y1 := q2 1 _ rfl; have y2 := q2 2 _ rfl; have y3 := q2 3 _ rfl; have y4 := q2 4 _ rfl; have y5 := q2 5 _ rfl; have y6 := q2 6 _ rfl; have z0 := q1 0 _ rfl; have z1 := q1 1 _ rfl; have z2 := q1 2 _ rfl; have z3 := q1 3 _ rfl; have z4 := q1 4 _ rfl; have z5 := q1 5 _ rfl; have B1 : Hid (Below w.heap.size w w1) := q7; have HSP : Hid (SpC w1 (w.heap.size + 1 + 1) zeroS noS noS) := ⟨q3 0 _ rfl, q3 1 _ rfl, q3 2 _ rfl, q3 3 _ rfl, q3 4 _ rfl, q3 5 _ rfl, q4⟩; have HAN : Hid (AnC w1 (w.heap.size + 1 + 1 + 1) 0 zeroB noS zeroX 0) := ⟨q5 0 _ rfl, q5 1 _ rfl, q5 2 _ rfl, q5 3 _ rfl, q5 4 _ rfl, q5 5 _ rfl, q5 6 _ rfl, q5 7 _ rfl, q5 8 _ rfl, q5 9 _ rfl, q5 10 _ rfl, q6⟩; have HSZ : Hid (w.heap.size + 4 ≤ w1.heap.size) := q8; clear c1 q1 q2 q3 q4 q5 q6 q7 q8)
    | (go_at_call 27; refine (CE.out _ B1.out).mono ?_; rintro e w2 ⟨rfl, c2⟩; have B2 : Hid (Below w1.heap.size w1 w2) := c2; have z0b := bel_cell c2 z0; have z1b := bel_cell c2 z1; have z2b := bel_cell c2 z2; have z3b := bel_cell c2 z3; have z4b := bel_cell c2 z4; have z5b := bel_cell c2 z5; clear c2)
    | (go_at_call 25; refine (CF.out _ _).mono ?_; rintro e wf ⟨rfl, rfl⟩)
    | (go_at_call 25; refine (CR.out _ _).mono ?_; rintro e w3 ⟨rfl, rfl⟩))
  exact apply_caught (HSP.out.below B2.out) (HAN.out.below B2.out) (bel_tr B1.out B2.out) rfl rfl
theorem apply_no {s : Sp} {N L : RS} {w : World} (h : SpIn w s N L) (e : Ed) (ea : Option Addr) (em eq : Nat) (hn : Nm w ea em e.ls) (hR : RtS s) (he : Edi.Rt e) (ht : s.tx ≠ 300) (E : Int) (hd : DoE s e E) (h0 : E ≠ 0) :
    Calls Tryz.prog 11 #[spV s N L, edV e ea em eq] w fun r w' => r = .returned (.tuple #[spV zeroS noS noS, anV E zeroB noS zeroX 0]) ∧ Below w.heap.size w w' := by
  have hmf : ∀ (fn : Fn) (first cap : Array Value) (w : World), (Instr.makeFunc fn first cap).run Tryz.prog w = .ok (.func fn first cap) w := fun _ _ _ _ => rfl
  have CS : Hid (∀ W, Below w.heap.size w W → Calls Tryz.prog 26 #[spV s N L] W fun e w' => e = .returned (.bool true) ∧ Below W.heap.size W w') := fun W hb => rightS_val (h.below hb) true ⟨fun _ => hR, fun _ => rfl⟩
  have CE : Hid (∀ W, Below w.heap.size w W → Calls Tryz.prog 27 #[edV e ea em eq] W fun x w' => x = .returned (.bool true) ∧ Below W.heap.size W w') := fun W hb => Edi.right_val (hn.below hb) true ⟨fun _ => he, fun _ => rfl⟩
  have CF : Hid (∀ E W, Calls Tryz.prog 25 #[.bool false, .int .i64 E] W fun e w' => e = .returned (.tuple #[]) ∧ W = w') := fun E W => (refuse_no E W).mono fun e w' ⟨h1, h2⟩ => ⟨h1, h2.symm⟩
  have CC : Hid (∀ W, Below w.heap.size w W → Calls Tryz.prog 28 #[spV s N L] W fun e w' => CopiedR W.heap.size s e w' ∧ Below W.heap.size W w') := fun W hb => copied_right (h.below hb) hR
  have CH : Hid (∀ base M0 S W N1 L1 ps gb gl, Pre base M0 S W s N1 L1 ps gb gl → w.heap.size ≤ base → Below w.heap.size w W → Calls Tryz.prog 29 #[.pointer (some ⟨S, 0, none⟩), edV e ea em eq] W fun r w' => LeftR S base M0 E W r w') := fun base M0 S W N1 L1 ps gb gl hP hwb hb => change_no hP e ea em eq (hn.below hb) (fun ad ha hp => Nat.lt_of_lt_of_le (nm_lt hn ad ha hp) hwb) hR he E hd h0
  have HRT : Hid (RtS s) := hR
  have htb : (s.tx == 300) = false := by simpa using ht
  clear h hn hR he hd h0; obtain ⟨k, p, t, cl, l, nn, ls⟩ := e
  obtain ⟨tx, nb, ng, now, ns, lss⟩ := s
  unfold edV at CE CH ⊢
  unfold spV at CS CC ; rw [show spV ⟨tx, nb, ng, now, ns, lss⟩ N L = .agg #[.int .i64 tx, .int .i64 nb, .int .i64 ng, .int .i64 now, .slice N.a N.n N.c, .slice L.a L.n L.c] from rfl]
  simp only at CE CS CH CC htb ht HRT ⊢
  have hst := run_store_str
  have hst2 := sto2
  go_enter_defers Tryz.func11, Tryz.ntmps11
  go_wp2_with (first
    | (go_at_call 26; refine (CS.out _ (bel_tr (bel_tr (bel_al _ _) (bel_al _ _)) (bel_tr (bel_al _ _) (bel_al _ _)))).mono ?_; rintro e w1 ⟨rfl, c1⟩; obtain ⟨q1, q2, q3, q4, q5, q6, q7, q8⟩ := four_boxes c1; have y0 := q2 0 _ rfl; have y1 := q2 1 _ rfl; have y2 := q2 2 _ rfl; have y3 := q2 3 _ rfl; have y4 := q2 4 _ rfl; have y5 := q2 5 _ rfl; have y6 := q2 6 _ rfl; have z0 := q1 0 _ rfl; have z1 := q1 1 _ rfl; have z2 := q1 2 _ rfl; have z3 := q1 3 _ rfl; have z4 := q1 4 _ rfl; have z5 := q1 5 _ rfl; have B1 : Hid (Below w.heap.size w w1) := q7; have HSP : Hid (SpC w1 (w.heap.size + 1 + 1) zeroS noS noS) := ⟨q3 0 _ rfl, q3 1 _ rfl, q3 2 _ rfl, q3 3 _ rfl, q3 4 _ rfl, q3 5 _ rfl, q4⟩; have HAN : Hid (AnC w1 (w.heap.size + 1 + 1 + 1) 0 zeroB noS zeroX 0) := ⟨q5 0 _ rfl, q5 1 _ rfl, q5 2 _ rfl, q5 3 _ rfl, q5 4 _ rfl, q5 5 _ rfl, q5 6 _ rfl, q5 7 _ rfl, q5 8 _ rfl, q5 9 _ rfl, q5 10 _ rfl, q6⟩; have HSZ : Hid (w.heap.size + 4 ≤ w1.heap.size) := q8; clear c1 q1 q2 q3 q4 q5 q6 q7 q8)
    | (go_at_call 27; refine (CE.out _ B1.out).mono ?_; rintro e w2 ⟨rfl, c2⟩; have B2 : Hid (Below w1.heap.size w1 w2) := c2; have z0b := bel_cell c2 z0; have z1b := bel_cell c2 z1; have z2b := bel_cell c2 z2; have z3b := bel_cell c2 z3; have z4b := bel_cell c2 z4; have z5b := bel_cell c2 z5; clear c2)
    | (go_at_call 25; refine (CF.out _ _).mono ?_; rintro e wf ⟨rfl, rfl⟩)
    | (go_at_call 28; refine (CC.out _ (bel_tr B1.out B2.out)).mono ?_; rintro e w3 ⟨⟨N1, L1, ps1, g1, gl1, rfl, hO1, hr1, hz1⟩, c3⟩; have B3 : Hid (Below w2.heap.size w2 w3) := c3; obtain ⟨gb, hP⟩ := pre_copied HRT.out ((HSP.out.below B2.out).below c3) (Nat.le_trans HSZ.out B2.out.size) c3.size hO1; have HP : Hid _ := hP; have p := ((HSP.out.below B2.out).below c3); have p0 := p.c0; have p1 := p.c1; have p2 := p.c2; have p3 := p.c3; have p4 := p.c4; have p5 := p.c5; have pf := p.fr; unfold zeroS at p0 p1 p2 p3; unfold noS at p4 p5; have i0 := bel_cell (bel_tr B2.out c3) y0; have i1 := bel_cell (bel_tr B2.out c3) y1; have i2 := bel_cell (bel_tr B2.out c3) y2; have i3 := bel_cell (bel_tr B2.out c3) y3; have i4 := bel_cell (bel_tr B2.out c3) y4; have i5 := bel_cell (bel_tr B2.out c3) y5; have i6 := bel_cell (bel_tr B2.out c3) y6; unfold spV; simp only at p0 p1 p2 p3 p4 p5 ⊢; clear hP hO1 hr1 hz1 c3 p))
  have hsp := (HSP.out.below B2.out).below B3.out
  have hB3 := bel_tr (bel_tr B1.out B2.out) B3.out
  have h4 := HSZ.out
  have h5 := B2.out.size
  have h6 := B3.out.size
  refine (CH.out _ _ _ _ _ _ _ _ _ HP.out (by omega) (put6_below hB3 hsp _ N1 L1)).mono ?_
  rintro r w5 ⟨rfl, hst, hc⟩; obtain ⟨s', N', L', hs'⟩ := hc _ _ _ HP.out.c
  refine apply_caught hs' ((((HAN.out.below B2.out).below B3.out).keep (put6_at hsp _ N1 L1).2 (by omega)).keep hst (fun e => ?_)) (((Stay.of_below (O := fun k => w.heap.size ≤ k) (put6_below hB3 hsp _ N1 L1)).then_same (hst.mono (fun k e => ?_))).below (Nat.le_refl _) (fun k hk => hk)) rfl rfl
  · rcases e with e | e
    · omega
    · omega
  · rcases e with e | e
    · omega
    · omega
structure AppliedR (B : Nat) (t : Sp) (b : Blk) (x : Nd) (r : Ending) (w' : World) : Prop where
  ex : ∃ N L ps g gl base M sx, r = .returned (.tuple #[spV t N L, anV 0 b noS (x, sx) 0]) ∧ OwnM base M w' t N L ps g gl ∧ Free M w' (x, sx) ∧ B ≤ base ∧ base ≤ M
theorem rm_put6 {w3 : World} {R : Nat} {s0 : Sp} {N0 L0 : RS} (hS : SpC w3 R s0 N0 L0) (s : Sp) (N L : RS) {r : RS} (h : Rm w3 r) (hne : r.blk ≠ some R) : Rm (put6 w3 R s N L) r :=
  h.keep fun k hk => (put6_at hS s N L).2.block k (h.lt k hk) (fun e => hne (by rw [hk, e]))
theorem apply_ok {s : Sp} {N L : RS} {w : World} (h : SpIn w s N L) (e : Ed) (ea : Option Addr) (em eq : Nat) (hn : Nm w ea em e.ls) (hR : RtS s) (he : Edi.Rt e) (ht : s.tx ≠ 300) (hd : DoE s e 0) :
    Calls Tryz.prog 11 #[spV s N L, edV e ea em eq] w fun r w' => AppliedR w.heap.size (doS s e) (blkOf s e) (ndOf s e) r w' ∧ Below w.heap.size w w' := by
  have hmf : ∀ (fn : Fn) (first cap : Array Value) (w : World), (Instr.makeFunc fn first cap).run Tryz.prog w = .ok (.func fn first cap) w := fun _ _ _ _ => rfl
  have CS : Hid (∀ W, Below w.heap.size w W → Calls Tryz.prog 26 #[spV s N L] W fun e w' => e = .returned (.bool true) ∧ Below W.heap.size W w') := fun W hb => rightS_val (h.below hb) true ⟨fun _ => hR, fun _ => rfl⟩
  have CE : Hid (∀ W, Below w.heap.size w W → Calls Tryz.prog 27 #[edV e ea em eq] W fun x w' => x = .returned (.bool true) ∧ Below W.heap.size W w') := fun W hb => Edi.right_val (hn.below hb) true ⟨fun _ => he, fun _ => rfl⟩
  have CF : Hid (∀ E W, Calls Tryz.prog 25 #[.bool false, .int .i64 E] W fun e w' => e = .returned (.tuple #[]) ∧ W = w') := fun E W => (refuse_no E W).mono fun e w' ⟨h1, h2⟩ => ⟨h1, h2.symm⟩
  have CC : Hid (∀ W, Below w.heap.size w W → Calls Tryz.prog 28 #[spV s N L] W fun e w' => CopiedR W.heap.size s e w' ∧ Below W.heap.size W w') := fun W hb => copied_right (h.below hb) hR
  have CH : Hid (∀ base M0 S W N1 L1 ps gb gl, Pre base M0 S W s N1 L1 ps gb gl → w.heap.size ≤ base → Below w.heap.size w W → (∀ x ∈ ps, Rm W x.2) → Calls Tryz.prog 29 #[.pointer (some ⟨S, 0, none⟩), edV e ea em eq] W fun r w' => DoneR S base M0 (doT s e) (blkOf s e) (ndOf s e) W r w') := fun base M0 S W N1 L1 ps gb gl hP hwb hb hrm => change_ok hP e ea em eq (hn.below hb) (fun ad ha hp => Nat.lt_of_lt_of_le (nm_lt hn ad ha hp) hwb) hR he hrm hd
  have HRT : Hid (RtS s) := hR
  have htb : (s.tx == 300) = false := by simpa using ht
  have hT : Hid (doS s e = ⟨s.tx + 1, (doT s e).nb, (doT s e).ng, (doT s e).now, (doT s e).ns, (doT s e).ls⟩ ∧ (doT s e).tx = s.tx) := ⟨rfl, rfl⟩
  have hb1 := hR.tx.1
  have hb2 := hR.tx.2
  generalize blkOf s e = bk at *
  generalize ndOf s e = nd at *
  generalize doS s e = dS at *
  generalize doT s e = dT at *
  clear h hn hR he hd; obtain ⟨k, p, t, cl, l, nn, ls⟩ := e
  obtain ⟨tx, nb, ng, now, ns, lss⟩ := s
  unfold edV at CE CH ⊢
  unfold spV at CS CC ; rw [show spV ⟨tx, nb, ng, now, ns, lss⟩ N L = .agg #[.int .i64 tx, .int .i64 nb, .int .i64 ng, .int .i64 now, .slice N.a N.n N.c, .slice L.a L.n L.c] from rfl]
  simp only at CE CS CH CC htb ht HRT hT hb1 hb2 ⊢
  have hst := run_store_str
  have hst2 := sto2
  go_enter_defers Tryz.func11, Tryz.ntmps11
  go_wp2_with (first
    | (go_at_call 26; refine (CS.out _ (bel_tr (bel_tr (bel_al _ _) (bel_al _ _)) (bel_tr (bel_al _ _) (bel_al _ _)))).mono ?_; rintro e w1 ⟨rfl, c1⟩; obtain ⟨q1, q2, q3, q4, q5, q6, q7, q8⟩ := four_boxes c1; have y0 := q2 0 _ rfl; have y1 := q2 1 _ rfl; have y2 := q2 2 _ rfl; have y3 := q2 3 _ rfl; have y4 := q2 4 _ rfl; have y5 := q2 5 _ rfl; have y6 := q2 6 _ rfl; have z0 := q1 0 _ rfl; have z1 := q1 1 _ rfl; have z2 := q1 2 _ rfl; have z3 := q1 3 _ rfl; have z4 := q1 4 _ rfl; have z5 := q1 5 _ rfl; have B1 : Hid (Below w.heap.size w w1) := q7; have HSP : Hid (SpC w1 (w.heap.size + 1 + 1) zeroS noS noS) := ⟨q3 0 _ rfl, q3 1 _ rfl, q3 2 _ rfl, q3 3 _ rfl, q3 4 _ rfl, q3 5 _ rfl, q4⟩; have HAN : Hid (AnC w1 (w.heap.size + 1 + 1 + 1) 0 zeroB noS zeroX 0) := ⟨q5 0 _ rfl, q5 1 _ rfl, q5 2 _ rfl, q5 3 _ rfl, q5 4 _ rfl, q5 5 _ rfl, q5 6 _ rfl, q5 7 _ rfl, q5 8 _ rfl, q5 9 _ rfl, q5 10 _ rfl, q6⟩; have HSZ : Hid (w.heap.size + 4 ≤ w1.heap.size) := q8; clear c1 q1 q2 q3 q4 q5 q6 q7 q8)
    | (go_at_call 27; refine (CE.out _ B1.out).mono ?_; rintro e w2 ⟨rfl, c2⟩; have B2 : Hid (Below w1.heap.size w1 w2) := c2; have z0b := bel_cell c2 z0; have z1b := bel_cell c2 z1; have z2b := bel_cell c2 z2; have z3b := bel_cell c2 z3; have z4b := bel_cell c2 z4; have z5b := bel_cell c2 z5; clear c2)
    | (go_at_call 25; refine (CF.out _ _).mono ?_; rintro e wf ⟨rfl, rfl⟩)
    | (go_at_call 28; refine (CC.out _ (bel_tr B1.out B2.out)).mono ?_; rintro e w3 ⟨⟨N1, L1, ps1, g1, gl1, rfl, hO1, hr1, hz1⟩, c3⟩; have B3 : Hid (Below w2.heap.size w2 w3) := c3; obtain ⟨gb, hP⟩ := pre_copied HRT.out ((HSP.out.below B2.out).below c3) (Nat.le_trans HSZ.out B2.out.size) c3.size hO1; have HP : Hid _ := hP; have p := ((HSP.out.below B2.out).below c3); have p0 := p.c0; have p1 := p.c1; have p2 := p.c2; have p3 := p.c3; have p4 := p.c4; have p5 := p.c5; have pf := p.fr; unfold zeroS at p0 p1 p2 p3; unfold noS at p4 p5; have i0 := bel_cell (bel_tr B2.out c3) y0; have i1 := bel_cell (bel_tr B2.out c3) y1; have i2 := bel_cell (bel_tr B2.out c3) y2; have i3 := bel_cell (bel_tr B2.out c3) y3; have i4 := bel_cell (bel_tr B2.out c3) y4; have i5 := bel_cell (bel_tr B2.out c3) y5; have i6 := bel_cell (bel_tr B2.out c3) y6; unfold spV; simp only at p0 p1 p2 p3 p4 p5 ⊢; have HRM : Hid _ := hr1; have HOO : Hid _ := hO1; clear hP hO1 hr1 hz1 c3 p))
  have hsp := (HSP.out.below B2.out).below B3.out
  have hB3 := bel_tr (bel_tr B1.out B2.out) B3.out
  have h4 := HSZ.out
  have h5 := B2.out.size
  have h6 := B3.out.size
  refine (CH.out _ _ _ _ _ _ _ _ _ HP.out (by omega) (put6_below hB3 hsp _ N1 L1) (fun x hx => rm_put6 hsp _ N1 L1 (HRM.out x hx) (fun e => by have := (HOO.out.lot.ok x hx).blk_ge _ e; omega))).mono ?_
  rintro r w5 ⟨⟨N', L', ps', g', gl', M, sx, rfl, hC, hO, hF, hM, hNB, hsx⟩, hst⟩
  have HBL : Hid (Below w.heap.size w w5) := ((Stay.of_below (O := fun k => w.heap.size ≤ k) (put6_below hB3 hsp _ N1 L1)).then_same (hst.mono (fun k e => by (rcases e with e | e) <;> omega))).below (Nat.le_refl _) (fun k hk => hk)
  have HA5 : Hid (AnC w5 (w.heap.size + 1 + 1 + 1) 0 zeroB noS zeroX 0) := (((HAN.out.below B2.out).below B3.out).keep (put6_at hsp _ N1 L1).2 (by omega)).keep hst (fun e => by (rcases e with e | e) <;> omega)
  have HSS : Hid (w.heap.size + 4 ≤ w2.heap.size) := by (show _ ≤ _; omega)
  have HC5 : Hid _ := hC
  have HO5 : Hid _ := hO
  have HF5 : Hid _ := hF
  have HM5 : Hid _ := hM
  have HNB : Hid _ := hNB
  have HSX : Hid _ := hsx
  have c50 := hC.c0
  rw [hT.out.2] at c50
  have c5f := hC.fr 0
  obtain ⟨a0, a1, a2, a3, a4, a5, a6, a7, a8, a9, a10, afr⟩ := HA5.out
  unfold zeroB at a1 a2 a3; unfold noS at a4; unfold zeroX zeroN noS at a5 a6 a7 a8 a9; unfold anV noS; simp only at a1 a2 a3 a4 a5 a6 a7 a8 a9 ⊢
  clear hsp hB3 h4 h5 h6 hC hO hF hM hNB hsx hst; go_wp2; change Code.wp _ _ _ _ ((put11 w5 (w.heap.size + 1 + 1 + 1) 0 bk noS (nd, sx) 0).setCell ⟨w.heap.size + 1 + 1, 0, none⟩ (.int .i64 (tx + 1)))
  obtain ⟨kA, kS⟩ := put11_at HA5.out 0 bk noS (nd, sx) 0
  have hss := HSS.out
  have hM := HM5.out
  obtain ⟨hC7, hS7⟩ := (HC5.out.keep kS (by omega)).set0 (tx + 1)
  have HC7 : Hid (SpC ((put11 w5 (w.heap.size + 1 + 1 + 1) 0 bk noS (nd, sx) 0).setCell ⟨w.heap.size + 1 + 1, 0, none⟩ (.int .i64 (tx + 1))) (w.heap.size + 1 + 1) dS N' L') := by rw [hT.out.1]; exact hC7
  have HA7 : Hid (AnC ((put11 w5 (w.heap.size + 1 + 1 + 1) 0 bk noS (nd, sx) 0).setCell ⟨w.heap.size + 1 + 1, 0, none⟩ (.int .i64 (tx + 1))) (w.heap.size + 1 + 1 + 1) 0 bk noS (nd, sx) 0) := kA.keep hS7 (by omega)
  have hO7 := (HO5.out.out kS (fun k hk => .inl (by omega))).out hS7 (fun k hk => .inl (by omega))
  have HO7 : Hid (OwnM w2.heap.size M ((put11 w5 (w.heap.size + 1 + 1 + 1) 0 bk noS (nd, sx) 0).setCell ⟨w.heap.size + 1 + 1, 0, none⟩ (.int .i64 (tx + 1))) dS N' L' ps' g' gl') := by rw [hT.out.1]; exact ⟨hO7.lot, hO7.map, hO7.lo, hO7.gl1, hO7.gl2, hO7.lt1, hO7.lt2, hO7.lt3⟩
  have HF7 : Hid (Free M ((put11 w5 (w.heap.size + 1 + 1 + 1) 0 bk noS (nd, sx) 0).setCell ⟨w.heap.size + 1 + 1, 0, none⟩ (.int .i64 (tx + 1))) (nd, sx)) := Stay.free (Stay.free HF5.out kS (fun k hk e => by have := HF5.out.blk_ge k hk; omega)) hS7 (fun k hk e => by have := HF5.out.blk_ge k hk; omega)
  have HB7 : Hid (Below w.heap.size w ((put11 w5 (w.heap.size + 1 + 1 + 1) 0 bk noS (nd, sx) 0).setCell ⟨w.heap.size + 1 + 1, 0, none⟩ (.int .i64 (tx + 1)))) := (((Stay.of_below (O := fun k => w.heap.size ≤ k) HBL.out).then_same (kS.mono (fun k hk => by omega))).then_same (hS7.mono (fun k hk => by omega))).below (Nat.le_refl _) (fun k hk => hk)
  clear kA kS hC7 hS7 hO7 HO5 HF5 HC5 HA5 HBL a0 a1 a2 a3 a4 a5 a6 a7 a8 a9 a10 afr c50 c5f HNB HSX; generalize ((put11 w5 (w.heap.size + 1 + 1 + 1) 0 bk noS (nd, sx) 0).setCell ⟨w.heap.size + 1 + 1, 0, none⟩ (.int .i64 (tx + 1))) = W7 at *
  obtain ⟨j0, j1, j2, j3, j4, j5, jf⟩ := HC7.out
  obtain ⟨k0, k1, k2, k3, k4, k5, k6, k7, k8, k9, k10, kf⟩ := HA7.out
  unfold noS at k4; simp only at k1 k2 k3 k4 k5 k6 k7 k8 k9
  go_region
  change Exit.then _ _ Exit.normal _ (put11 (put6 W7 (w.heap.size + 1 + 1) dS N' L') (w.heap.size + 1 + 1 + 1) 0 bk noS (nd, sx) 0).drew
  obtain ⟨p1, p2⟩ := put6_at HC7.out dS N' L'
  obtain ⟨q1, q2⟩ := put11_at (HA7.out.keep p2 (by omega)) 0 bk noS (nd, sx) 0
  have bd := bel_drewN (put11 (put6 W7 (w.heap.size + 1 + 1) dS N' L') (w.heap.size + 1 + 1 + 1) 0 bk noS (nd, sx) 0) 1
  have HC8 : Hid (SpC (put11 (put6 W7 (w.heap.size + 1 + 1) dS N' L') (w.heap.size + 1 + 1 + 1) 0 bk noS (nd, sx) 0).drew (w.heap.size + 1 + 1) dS N' L') := (p1.keep q2 (by omega)).below bd
  have HA8 : Hid (AnC (put11 (put6 W7 (w.heap.size + 1 + 1) dS N' L') (w.heap.size + 1 + 1 + 1) 0 bk noS (nd, sx) 0).drew (w.heap.size + 1 + 1 + 1) 0 bk noS (nd, sx) 0) := q1.below bd
  have HO8 : Hid (OwnM w2.heap.size M (put11 (put6 W7 (w.heap.size + 1 + 1) dS N' L') (w.heap.size + 1 + 1 + 1) 0 bk noS (nd, sx) 0).drew dS N' L' ps' g' gl') := ((HO7.out.out p2 (fun k hk => .inl (by omega))).out q2 (fun k hk => .inl (by omega))).below bd
  have HF8 : Hid (Free M (put11 (put6 W7 (w.heap.size + 1 + 1) dS N' L') (w.heap.size + 1 + 1 + 1) 0 bk noS (nd, sx) 0).drew (nd, sx)) := (Stay.free (Stay.free HF7.out p2 (fun k hk e => by have := HF7.out.blk_ge k hk; omega)) q2 (fun k hk e => by have := HF7.out.blk_ge k hk; omega)).below bd
  have HB8 : Hid (Below w.heap.size w (put11 (put6 W7 (w.heap.size + 1 + 1) dS N' L') (w.heap.size + 1 + 1 + 1) 0 bk noS (nd, sx) 0).drew) := ((((Stay.of_below (O := fun k => w.heap.size ≤ k) HB7.out).then_same (p2.mono (fun k hk => by omega))).then_same (q2.mono (fun k hk => by omega))).then_below bd).below (Nat.le_refl _) (fun k hk => hk)
  clear p1 p2 q1 q2 bd HC7 HA7 HO7 HF7 HB7 j0 j1 j2 j3 j4 j5 jf k0 k1 k2 k3 k4 k5 k6 k7 k8 k9 k10 kf; generalize (put11 (put6 W7 (w.heap.size + 1 + 1) dS N' L') (w.heap.size + 1 + 1 + 1) 0 bk noS (nd, sx) 0).drew = W8 at *
  go_wp2; refine leaves_cons (f := 23) (args := #[.pointer (some ⟨w.heap.size + 1 + 1, 0, none⟩), .pointer (some ⟨w.heap.size + 1 + 1 + 1, 0, none⟩)]) (by simp) (by simp [go_sem]) ?_
  refine catch_idle.mono ?_
  rintro e u' w' ⟨rfl, rfl, rfl⟩
  refine ⟨.tuple #[spV dS N' L', anV 0 bk noS (nd, sx) 0], ?_, ⟨⟨N', L', ps', g', gl', w2.heap.size, M, sx, rfl, HO8.out, HF8.out, by omega, HM5.out⟩, HB8.out⟩⟩
  obtain ⟨j0, j1, j2, j3, j4, j5, _⟩ := HC8.out
  obtain ⟨k0, k1, k2, k3, k4, k5, k6, k7, k8, k9, k10, _⟩ := HA8.out
  unfold spV anV; simp only [results, Tryz.results11]
  simp [go_sem, k0, k1, k2, k3, k4, k5, k6, k7, k8, k9, k10, j0, j1, j2, j3, j4, j5]
theorem OwnM.spIn {base M : Nat} {w : World} {s : Sp} {N L : RS} {ps : List NR} {g gl : Option Nat} (h : OwnM base M w s N L ps g gl) : SpIn w s N L := by
  obtain ⟨b, hb⟩ := h.lot.nds
  refine ⟨⟨b, 0, ps, h.map, ?_, hb⟩, h.lo.ll, fun hn => ?_⟩
  · rw [← h.map, List.length_map]; exact h.lot.len
  · have hc := h.lot.cel
    cases hc with
    | nil e _ _ => injection e
    | row k cap e _ _ _ _ _ _ _ => injection e with e1 _ _; rw [hn] at e1; cases e1
theorem OwnM.zero (B M : Nat) (w : World) : OwnM B M w zeroS noS noS [] none none :=
  ⟨⟨.nil rfl rfl rfl, rfl, fun x hx => (by cases hx), fun x hx => (by cases hx)⟩, rfl, Lea.LO.none _ _, fun k hk => (by cases hk), fun x hx => (by cases hx), fun k hk => (by cases hk), fun k hk => (by cases hk), fun x hx => (by cases hx)⟩
def appB (s : Sp) (e : Ed) (E : Int) : Blk := if E = 0 then blkOf s e else zeroB
def appN (s : Sp) (e : Ed) (E : Int) : Nd := if E = 0 then ndOf s e else zeroN
structure AppR (B : Nat) (s : Sp) (e : Ed) (E : Int) (r : Ending) (w' : World) : Prop where
  ex : ∃ N L ps g gl base M sx, r = .returned (.tuple #[spV (appS s e E) N L, anV E (appB s e E) noS (appN s e E, sx) 0]) ∧ OwnM base M w' (appS s e E) N L ps g gl ∧ Free M w' (appN s e E, sx) ∧ B ≤ base ∧ base ≤ M
theorem appR_no {B : Nat} {s : Sp} {e : Ed} {E : Int} {r : Ending} {w' : World} (h0 : E ≠ 0) (hr : r = .returned (.tuple #[spV zeroS noS noS, anV E zeroB noS zeroX 0])) : AppR B s e E r w' := by
  have e1 : appS s e E = zeroS := if_neg h0
  have e2 : appB s e E = zeroB := if_neg h0
  have e3 : appN s e E = zeroN := if_neg h0
  refine ⟨noS, noS, [], none, none, B, B, noS, ?_, ?_, ?_, Nat.le_refl _, Nat.le_refl _⟩
  · rw [e1, e2, e3]; exact hr
  · rw [e1]; exact OwnM.zero _ _ _
  · rw [e3]; exact free_no _ _ zeroN rfl (by decide)
theorem apply_val {s : Sp} {N L : RS} {w : World} (h : SpIn w s N L) (e : Ed) (ea : Option Addr) (em eq : Nat) (hn : Nm w ea em e.ls) (E : Int) (hE : AppE s e E) :
    Calls Tryz.prog 11 #[spV s N L, edV e ea em eq] w fun r w' => AppR w.heap.size s e E r w' ∧ Below w.heap.size w w' := by
  cases hE with
  | arg hx => exact (apply_arg h e ea em eq hn hx).mono fun r w' h => ⟨appR_no (by decide) h.1, h.2⟩
  | long hR he ht => exact (apply_long h e ea em eq hn hR he ht).mono fun r w' h => ⟨appR_no (by decide) h.1, h.2⟩
  | does _ hR he ht hd =>
    by_cases h0 : E = 0
    · subst h0
      refine (apply_ok h e ea em eq hn hR he ht hd).mono fun r w' h => ⟨?_, h.2⟩
      obtain ⟨N, L, ps, g, gl, base, M, sx, h1, h2, h3, h4, h5⟩ := h.1.ex
      exact ⟨N, L, ps, g, gl, base, M, sx, h1, h2, h3, h4, h5⟩
    · exact (apply_no h e ea em eq hn hR he ht E hd h0).mono fun r w' h => ⟨appR_no h0 h.1, h.2⟩
theorem lot_root (base : Nat) (w : World) (hb : base ≤ w.heap.size) : OwnM base (w.heap.size + 1) (w.alloc (.cells #[.string rootP, .bool true, .int .i64 (-1), .slice none 0 0, .int .i64 (-1)] 35)) newS ⟨some ⟨w.heap.size, 0, none⟩, 1, 1⟩ noS [(rootN, noS)] (some w.heap.size) none := by
  have hc := World.cell?_alloc_new w #[.string rootP, .bool true, .int .i64 (-1), .slice none 0 0, .int .i64 (-1)] 35
  have hz : (w.alloc (.cells #[.string rootP, .bool true, .int .i64 (-1), .slice none 0 0, .int .i64 (-1)] 35)).heap.size = w.heap.size + 1 := by simp
  refine ⟨⟨.row w.heap.size 1 rfl rfl hb (by omega) (Nat.le_refl _) (by decide) (fun j hj => ?_) (fun j hj => ?_), rfl, fun x hx => ?_, fun x hx k hk => ?_⟩, rfl, Lea.LO.none _ _, fun k hk => (by simp), fun x hx k hk => (by simp), fun k hk => (by cases hk; omega), fun k hk => (by cases hk), fun x hx k hk => ?_⟩
  · have hj5 : j < 5 := hj
    rw [hc j]
    match j, hj5 with
    | 0, _ => rfl
    | 1, _ => rfl
    | 2, _ => rfl
    | 3, _ => rfl
    | 4, _ => rfl
  · have hj5 : j < 5 := hj
    refine ⟨?_, World.frozen?_alloc_new w _ _ j⟩
    rw [hc j]
    match j, hj5 with
    | 0, _ => rfl
    | 1, _ => rfl
    | 2, _ => rfl
    | 3, _ => rfl
    | 4, _ => rfl
  · cases List.mem_singleton.1 hx
    exact free_no _ _ rootN rfl (by decide)
  · cases List.mem_singleton.1 hx
    unfold noS RS.blk; simp
  · cases List.mem_singleton.1 hx
    unfold noS RS.blk at hk; simp at hk
theorem new_val (w : World) :
    Calls Tryz.prog 10 #[] w fun r w' => (∃ N L ps g gl base M, w.heap.size ≤ base ∧ r = .returned (spV newS N L) ∧ OwnM base M w' newS N L ps g gl) ∧ Below w.heap.size w w' := by
  have hst := run_store_str
  have hst2 := sto2
  go_enter Tryz.func10, Tryz.ntmps10; go_wp2_with (go_at_call 22; refine (newDir_val _ _).mono ?_; rintro e w1 ⟨rfl, c1⟩; have B1 : Hid (Below w.heap.size w w1) := bel_tr (bel_al _ _) c1; have HS1 : Hid (SpC w1 w.heap.size zeroS noS noS) := (SpC.new w 27 zeroS noS noS).below c1; have p := fun o => HS1.out.below (bel_al w1 o); have p0 := fun o => (p o).c0; have p1 := fun o => (p o).c1; have p2 := fun o => (p o).c2; have p3 := fun o => (p o).c3; have p4 := fun o => (p o).c4; have p5 := fun o => (p o).c5; have pf := fun o => (p o).fr; simp only [zeroS, noS] at p0 p1 p2 p3 p4 p5; unfold ndV; simp only; clear c1 p)
  have hl := World.block_lt_of_cell? _ _ HS1.out.c0
  simp only at hl
  obtain ⟨q1, q2⟩ := put6_at (HS1.out.below (bel_al w1 (.cells #[.string rootP, .bool true, .int .i64 (-1), .slice none 0 0, .int .i64 (-1)] 35))) newS ⟨some ⟨w1.heap.size, 0, none⟩, 1, 1⟩ noS
  have hO := (lot_root (w.heap.size + 1) w1 hl).out q2 (fun k hk => .inl (by omega))
  have hB : Below w.heap.size w (put6 (w1.alloc (.cells #[.string rootP, .bool true, .int .i64 (-1), .slice none 0 0, .int .i64 (-1)] 35)) w.heap.size newS ⟨some ⟨w1.heap.size, 0, none⟩, 1, 1⟩ noS) := ((Stay.of_below (O := fun k => w.heap.size ≤ k) (bel_tr B1.out (bel_al _ _))).then_same (q2.mono (fun k hk => by omega))).below (Nat.le_refl _) (fun k hk => hk)
  change bodyPost _ _ _ _ _ (put6 (w1.alloc (.cells #[.string rootP, .bool true, .int .i64 (-1), .slice none 0 0, .int .i64 (-1)] 35)) w.heap.size newS ⟨some ⟨w1.heap.size, 0, none⟩, 1, 1⟩ noS)
  clear p0 p1 p2 p3 p4 p5 pf q2; generalize put6 (w1.alloc (.cells #[.string rootP, .bool true, .int .i64 (-1), .slice none 0 0, .int .i64 (-1)] 35)) w.heap.size newS ⟨some ⟨w1.heap.size, 0, none⟩, 1, 1⟩ noS = W at *
  refine bodyPost_ret (v := spV newS ⟨some ⟨w1.heap.size, 0, none⟩, 1, 1⟩ noS) ?_ rfl ⟨⟨_, _, _, _, _, w.heap.size + 1, _, by omega, rfl, hO⟩, hB⟩
  obtain ⟨j0, j1, j2, j3, j4, j5, _⟩ := q1
  unfold spV; simp only [results, Tryz.results10]
  simp [go_sem, j0, j1, j2, j3, j4, j5]
theorem cell_al2 {w : World} {a : Addr} {v : Value} (h : w.cell? a = some v) (o p : Obj) : ((w.alloc o).alloc p).cell? a = some v := bel_cell (bel_tr (bel_al _ _) (bel_al _ _)) h
end Go.Proofs.YtdilfbfkeiaafaaGreat.Spa
