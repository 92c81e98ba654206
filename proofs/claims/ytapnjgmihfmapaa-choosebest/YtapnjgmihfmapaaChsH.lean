/- A map from numbers to numbers, of the call's own; numbers sorted; the contracts of choose.counter and what it hands back. -/
import Derived.Test.YtapnjgmihfmapaaChsF1
import Derived.Test.YtapnjgmihfmapaaChsSort
import Derived.Maps.OwnSet
import Derived.Maps.OwnOps
import Derived.Lib.SortBridge
namespace Go.Proofs.Ytapnjgmihfmapaa.Chs
open Go.RowKit Go.Proofs.Ytapnjgmihfmapaa Go.Proofs.Ytapnjgmihfmapaa.Lgg
set_option linter.unusedVariables false

theorem lawK : Maps.Keyed Try.prog 3 := Maps.int_keyed Try.underlying3
theorem zeroI (w : World) : (zeroValue 3).run Try.prog w = .ok (.int .i64 0) w := by kernel_rfl
theorem wf64 {n : Int} (h : -9223372036854775808 ≤ n ∧ n ≤ 9223372036854775807) : (Lit.int .i64 n).wf = true := by
  simp only [Lit.wf, Bool.and_eq_true, decide_eq_true_eq]
  have e1 : IntKind.min .i64 = -9223372036854775808 := by decide
  have e2 : IntKind.max .i64 = 9223372036854775807 := by decide
  rw [e1, e2]
  exact h

/-- In block b there is a map of at most m entries, which tells f. -/
structure HeldI (w : World) (b m : Nat) (f : Int → Nat) : Prop where
  ex : ∃ D : DataW Value, w.ownsMap Try.prog 3 (plainElem Try.prog 3) b m D ∧ ∀ q : Int, D.atKey (.int .i64 q) (.lit (.int .i64 0)) = .lit (.int .i64 (f q : Int))
theorem HeldI.block {w w' : World} {b m : Nat} {f : Int → Nat} (h : HeldI w b m f) (hb : w'.heap[b]? = w.heap[b]?) : HeldI w' b m f := by
  obtain ⟨D, ⟨es, clock, h1, h2⟩, h3⟩ := h.ex
  exact ⟨D, ⟨es, clock, hb.trans h1, h2⟩, h3⟩
theorem HeldI.lt {w : World} {b m : Nat} {f : Int → Nat} (h : HeldI w b m f) : b < w.heap.size := by
  obtain ⟨D, h1, _⟩ := h.ex
  exact h1.lt
theorem HeldI.below {w w' : World} {b m : Nat} {f : Int → Nat} (h : HeldI w b m f) (hb : Below w.heap.size w w') : HeldI w' b m f := h.block (hb.block b h.lt)
theorem HeldI.as {w : World} {b m : Nat} {f f' : Int → Nat} (h : HeldI w b m f) (hf : ∀ q, f q = f' q) : HeldI w b m f' := by
  obtain ⟨D, h1, h2⟩ := h.ex
  exact ⟨D, h1, fun q => by rw [h2 q, hf q]⟩
theorem HeldI.new (w : World) : HeldI (w.alloc (.map #[] 0)) w.heap.size 0 (fun _ => 0) :=
  ⟨.map [], World.ownsMap_made w _ _ _, fun q => WideAt.atKey_none _ (fun p hp => by cases hp)⟩
theorem HeldI.put {w' : World} {b m : Nat} {D : DataW Value} {f : Int → Nat} (hD : Maps.IsMap D) (h2 : ∀ q : Int, D.atKey (.int .i64 q) (.lit (.int .i64 0)) = .lit (.int .i64 (f q : Int))) (k : Int) (v : Nat)
    (ho : w'.ownsMap Try.prog 3 (plainElem Try.prog 3) b (m + 1) (D.put (.int .i64 k) (.lit (.int .i64 (v : Int))))) : HeldI w' b (m + 1) (fun q => if q = k then v else f q) := by
  refine ⟨_, ho, fun q => ?_⟩
  by_cases e : q = k
  · subst e
    rw [Maps.atKey_put_same hD (by simp [WideAt.IsKeyLit]), if_pos rfl]
  · rw [Maps.atKey_put_other, h2 q, if_neg e]
    intro e2
    apply e
    simpa using e2
theorem HeldI.use {w : World} {b m : Nat} {f : Int → Nat} (h : HeldI w b m f) (s : Int) (F : Nat) (hF : f s = F) : ∃ D : DataW Value, w.ownsMap Try.prog 3 (plainElem Try.prog 3) b m D ∧ ∀ c : Int, D.atKey (.int .i64 s) (.lit (.int .i64 0)) = .lit (.int .i64 c) → c = (F : Int) := by
  obtain ⟨D, hown, hat⟩ := h.ex
  refine ⟨D, hown, fun c hc => ?_⟩
  have h1 := hat s
  rw [hF, hc] at h1
  simpa using h1
theorem turned_stay {w w' : World} {b : Nat} (h : w.mapTurned w' b) : Stay (fun k => k = b) w w' := Stay.of_grown h.grown (fun k hk => by cases hk; rfl)

set_option maxRecDepth 100000 in
set_option maxHeartbeats 1000000 in
theorem counter_val (w : World) : Calls Try.prog 24 #[] w fun e w' => (∃ T b, e = .returned (.func (.func 26) #[] #[.pointer (some ⟨T, 0, none⟩)]) ∧ w'.cell? ⟨T, 0, none⟩ = some (.map (some b)) ∧ T ≠ b ∧ w.heap.size ≤ T ∧ w.heap.size ≤ b ∧ HeldI w' b 0 (fun _ => 0)) ∧ Below w.heap.size w w' := by
  have hmm := @run_makeMap Try.prog
  have H0 : Hid (HeldI (w.alloc (.map #[] 0)) w.heap.size 0 (fun _ => 0)) := HeldI.new w
  go_enter Try.func24, Try.ntmps24
  go_wp2
  go_ret
  have hz : (w.alloc (.map #[] 0)).heap.size = w.heap.size + 1 := by simp
  have hc := World.cell?_alloc_new (w.alloc (.map #[] 0)) #[Value.map (some w.heap.size)] 48 0
  rw [hz] at hc
  exact ⟨⟨w.heap.size + 1, w.heap.size, rfl, hc, by omega, by omega, Nat.le_refl _, H0.out.below (bel_al _ _)⟩, bel_tr (bel_al _ _) (bel_al _ _)⟩

set_option maxRecDepth 100000 in
set_option maxHeartbeats 4000000 in
theorem count_val {w : World} {T b m : Nat} {f : Int → Nat} (n : Int) (hn : In64 n) (hT : w.cell? ⟨T, 0, none⟩ = some (.map (some b))) (hTb : T ≠ b) (hH : HeldI w b m f) (hm : m ≤ 1000000) (F : Nat) (hF : f n = F) (hF2 : F ≤ m) :
    Calls Try.prog 26 #[.int .i64 n, .pointer (some ⟨T, 0, none⟩)] w fun e w' => e = .returned (.int .i64 ((F : Int) + 1)) ∧ HeldI w' b (m + 1) (fun q => if q = n then F + 1 else f q) ∧ Stay (fun k => k = b) w w' := by
  obtain ⟨D, hown, hat⟩ := hH.ex
  have hkey := Maps.keyOf_int_mk (P := Try.prog) Try.underlying3 (wf64 hn)
  have hats : ∀ c : Int, D.atKey (.int .i64 n) (.lit (.int .i64 0)) = .lit (.int .i64 c) → c = (F : Int) := fun c hc => by
    have h1 := hat n
    rw [hF, hc] at h1
    simpa using h1
  have HATS : Hid _ := hats
  have hmm : m < maxLen := by unfold maxLen; omega
  have HPUT : Hid (∀ w3, w3.ownsMap Try.prog 3 (plainElem Try.prog 3) b (m + 1) (D.put (.int .i64 n) (.lit (.int .i64 ((F + 1 : Nat) : Int)))) → w.mapTurned w3 b → HeldI w3 b (m + 1) (fun q => if q = n then F + 1 else f q) ∧ Stay (fun k => k = b) w w3 ∧ w3.cell? ⟨T, 0, none⟩ = some (.map (some b))) := fun w3 ho ht => by
    refine ⟨HeldI.put hown.isMap hat n (F + 1) ho, turned_stay ht, ?_⟩
    exact (World.cell?_of_block (a := ⟨T, 0, none⟩) ((turned_stay ht).block T (World.block_lt_of_cell? _ _ hT) hTb)).trans hT
  have hfv : plainElem (H := Value) Try.prog 3 (.int .i64 ((F : Int) + 1)) = some (.lit (.int .i64 ((F + 1 : Nat) : Int)), []) := by
    have := plainElem_int (H := Value) (P := Try.prog) Try.underlying3 (wf64 (n := ((F + 1 : Nat) : Int)) (by omega))
    rw [← this]; congr 2
  have hFm : F ≤ 1000000 := by omega
  have e1 : (if n = n then F + 1 else f n) = F + 1 := if_pos rfl
  clear hats hat hF hTb hF2 hH
  go_enter Try.func26, Try.ntmps26
  go_wp2_with (first
    | (at_lookup; refine wpList_lookup_own_int _ rfl _ _ 48 rfl 3 3 .i64 lawK Try.underlying48 Try.underlying3 (zeroI _) b _ D rfl hown _ _ rfl hkey ?_; intro cc hcc hwc; obtain rfl := HATS.out cc hcc; clear hcc hwc)
    | (at_mapUpdate; refine wpList_mapUpdate_in _ rfl _ _ _ 48 rfl 3 3 lawK Try.underlying48 (plainElem Try.prog 3) b _ D rfl hown hmm _ _ _ rfl rfl hkey _ [] hfv ?_; intro w3 ho3 ht3; obtain ⟨hH3, hS3, hT3⟩ := HPUT.out w3 ho3 ht3; have HH3 : Hid _ := hH3; have HS3 : Hid _ := hS3; obtain ⟨D2, hown2, hat2⟩ := hH3.use n _ e1; have HAT2 : Hid _ := hat2; clear ho3 ht3 hH3 hS3 hat2)
    | (at_lookup; refine wpList_lookup_own_int _ rfl _ _ 48 rfl 3 3 .i64 lawK Try.underlying48 Try.underlying3 (zeroI _) b _ D2 rfl hown2 _ _ rfl hkey ?_; intro cd hcd hwd; obtain rfl := HAT2.out cd hcd; clear hcd hwd))
  go_ret
  exact ⟨rfl, HH3.out, HS3.out⟩

/-- A number's one cell. -/
def intC (z : Int) : List Value := [.int .i64 z]
theorem wideI : Wide intC 1 := ⟨fun _ => rfl, fun x u hu => by simp [intC] at hu; rcases hu with rfl; rfl⟩
theorem intC_row (zs : List Int) : rowC intC zs = zs.map (Value.int .i64) := by
  induction zs with
  | nil => rfl
  | cons z zs ih => rw [rowC_cons, ih]; rfl

set_option maxHeartbeats 1000000 in
theorem sort_val {O : Nat → Prop} {w : World} {g n c : Nat} {zs : List Int} (h : Cel O w 1 (.slice (some ⟨g, 0, none⟩) n c) n (rowC intC zs) (some g)) (hn : zs.length = n) (hb : n < 4611686018427387904) :
    Calls Try.prog 25 #[.slice (some ⟨g, 0, none⟩) n c] w fun e w' => e = .returned (.tuple #[]) ∧ Cel O w' 1 (.slice (some ⟨g, 0, none⟩) n c) n (rowC intC (sortZ zs)) (some g) ∧ Stay (fun k => k = g) w w' := by
  have hlen : (rowC intC zs).length = zs.length := by rw [rowC_len wideI]; omega
  have hce : ∀ j, j < zs.length → w.cell? ⟨g, 0 + j, none⟩ = some (.int .i64 (zs.getD j 0)) := fun j hj => by
    have := h.cell j (by omega)
    rw [Nat.zero_add, this, List.getD_eq_getElem?_getD, List.getElem?_eq_getElem hj]
    congr 1
    simp only [intC_row, List.getElem_map]
    rfl
  have hcap := h.cap2.1
  have hH := Lib.holds_of_ints (n := zs.length) (Nat.le_refl _) hce (fun j hj => by rw [Nat.zero_add]; exact (h.live j (by omega)).2)
  rw [List.take_length] at hH
  have hs := slices_Sort_int g 0 c zs w hH h.lt.1 (by omega)
  rw [hn] at hs
  refine hs.mono fun e w' ⟨he, q, os, hw⟩ => ⟨he, ?_⟩
  rw [Lib.sorted_world _ w g 0 q _ _ os hH (by simp)] at hw
  change w' = Sort.grow ((w.drewN q).setCells g 0 ((sortZ zs).map (Value.int .i64))) os at hw
  rw [← intC_row] at hw
  have hl2 : (rowC intC (sortZ zs)).length = n := by rw [rowC_len wideI, sortZ_len]; omega
  have h1 := (h.below (bel_dr w q)).setCells 0 (rowC intC (sortZ zs)) (by omega) n (rowC intC (sortZ zs)) hcap (by omega) (fun j hj => by
    rw [if_pos ⟨Nat.zero_le _, by omega⟩, Nat.sub_zero, List.getElem?_eq_getElem hj])
  have s1 : Stay (fun k => k = g) w ((w.drewN q).setCells g 0 (rowC intC (sortZ zs))) := (Stay.of_below (bel_dr w q)).then_same (Stay.setCells g 0 _ _ rfl)
  have hg1 : Below ((w.drewN q).setCells g 0 (rowC intC (sortZ zs))).heap.size ((w.drewN q).setCells g 0 (rowC intC (sortZ zs))) w' := by
    rw [hw]
    exact ⟨rfl, rfl, rfl, by rw [Sort.size_grow]; omega, fun k hk => Sort.heap_grow_old _ _ hk⟩
  exact ⟨h1.below hg1, s1.then_below hg1⟩

end Go.Proofs.Ytapnjgmihfmapaa.Chs
