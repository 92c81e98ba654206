/- The contracts of mail.New, Len, full, line.len, at. -/
import Derived.Test.YtgjbafpjllfdeaaMailM
import Derived.Test.YtgjbafpjllfdeaaRows
import Derived.WalkKit
import Derived.WalkSpells
import Derived.WalkLawsBesides
import Derived.Deep.RegionWith
import Derived.Deep.RegionLaw
import Derived.Deep.QuietTactic
import Derived.BigQuiet
import Derived.BigRegion
import Derived.Lib.QuietBelow
import Derived.Lib.MinMax
import Derived.OwnWalk
namespace Go.Proofs.Ytgjbafpjllfdeaa
open Go.RowKit

theorem bel_tr {a b c : World} (h : Below a.heap.size a b) (k : Below b.heap.size b c) : Below a.heap.size a c := h.trans (k.mono h.size)
theorem cell_al {w : World} {a : Addr} {v : Value} (h : w.cell? a = some v) (o : Obj) : (w.alloc o).cell? a = some v := ((Below.refl _ w).alloc (Nat.le_refl _) o |>.cell (World.block_lt_of_cell? _ _ h)).trans h
theorem froz_al {w : World} {a : Addr} {v : Value} (h : w.cell? a = some v) (h2 : w.frozen? a = false) (o : Obj) : (w.alloc o).frozen? a = false :=
  (World.frozen?_of_block (((Below.refl w.heap.size w).alloc (Nat.le_refl _) o).block a.block (World.block_lt_of_cell? _ _ h))).trans h2
theorem run_store_str (w : World) (a : Addr) (x : ByteArray) (m : Mode) : (store a (.string x) m).run Try.prog w = stored Try.prog w a (.string x) m := run_store Try.prog w a _ m rfl
theorem agRow : ∃ i, Try.prog.info? 60 = some i ∧ i.zero = some (.agg #[.int .i64 0, .string ⟨#[]⟩, .int .i64 0]) ∧ i.size = 3 ∧ i.bytes = 32 :=
  info_parts (show (Try.prog.info? 60).map (fun i => (i.zero, i.size, i.bytes)) = some (some (.agg #[.int .i64 0, .string ⟨#[]⟩, .int .i64 0]), 3, 32) by kernel_rfl)
theorem msgRow : ∃ i, Try.prog.info? 32 = some i ∧ i.zero = some (.agg #[.int .i64 0, .string ⟨#[]⟩]) ∧ i.size = 2 ∧ i.bytes = 24 :=
  info_parts (show (Try.prog.info? 32).map (fun i => (i.zero, i.size, i.bytes)) = some (some (.agg #[.int .i64 0, .string ⟨#[]⟩]), 2, 24) by kernel_rfl)

set_option maxRecDepth 100000 in
theorem new_val (w : World) : Calls Try.prog 8 #[] w fun e w' => e = .returned (.pointer (some ⟨w.heap.size, 0, none⟩)) ∧ MailAt (fun k => k = w.heap.size) w' w.heap.size none 0 none [] ∧ Below w.heap.size w w' := by
  go_enter Try.func8, Try.ntmps8
  go_wp2
  go_ret
  refine ⟨rfl, ⟨fun k hk => by subst hk; simp, rfl, ?_, ?_, .nil rfl rfl rfl, by simp⟩, (Below.refl _ w).alloc (Nat.le_refl _) _⟩
  · exact World.cell?_alloc_new w _ _ 0
  · exact World.frozen?_alloc_new w _ _ 0

set_option maxRecDepth 100000 in
theorem lineLen_val (p : Nat) (a : Option Addr) (n c : Nat) (w : World) (h0 : w.cell? ⟨p, 0, none⟩ = some (.slice a n c)) :
    Calls Try.prog 28 #[.pointer (some ⟨p, 0, none⟩)] w fun e w' => e = .returned (.int .i64 (n : Int)) ∧ w' = w := by
  go_enter Try.func28, Try.ntmps28
  go_wp2
  go_ret
  exact ⟨rfl, rfl⟩

set_option maxRecDepth 100000 in
theorem full_val (p : Nat) (a : Option Addr) (n c : Nat) (v : Bool) (w : World) (h0 : w.cell? ⟨p, 0, none⟩ = some (.slice a n c)) (hv : decide (50 ≤ n) = v) :
    Calls Try.prog 22 #[.pointer (some ⟨p, 0, none⟩)] w fun e w' => e = .returned (.bool v) ∧ w' = w := by
  have hv2 : decide ((50 : Int) ≤ (n : Int)) = v := by rw [← hv]; congr 1; simp; omega
  go_enter Try.func22, Try.ntmps22
  go_wp2_with (refine (lineLen_val p a n c _ h0).mono ?_; rintro e w' ⟨rfl, rfl⟩)
  go_ret
  exact ⟨rfl, rfl⟩

set_option maxRecDepth 100000 in
theorem mailLen_val (p : Nat) (a : Option Addr) (n c : Nat) (w : World) (h0 : w.cell? ⟨p, 0, none⟩ = some (.slice a n c)) :
    Calls Try.prog 20 #[.pointer (some ⟨p, 0, none⟩)] w fun e w' => e = .returned (.int .i64 (n : Int)) ∧ w' = w := by
  go_enter Try.func20, Try.ntmps20
  go_wp2_with (refine (lineLen_val p a n c _ h0).mono ?_; rintro e w' ⟨rfl, rfl⟩)
  go_ret
  exact ⟨rfl, rfl⟩

section
variable {O : Nat → Prop} {w : World} {p : Nat} {a : Option Addr} {c : Nat} {g : Option Nat} {xs : ML}

set_option maxRecDepth 100000 in
theorem at_hit (h : MailAt O w p a c g xs) (k : Nat) (hk : k < xs.length) (m : Msg) (hm : xs[k].1 = m) :
    Calls Try.prog 24 #[.pointer (some ⟨p, 0, none⟩), .int .i64 (k : Int)] w fun e w' => e = .returned (.tuple #[msgV m, .bool true]) ∧ Below w.heap.size w w' := by
  obtain ⟨b, rfl, rfl, e0, e1, _⟩ := h.elem hk
  have c0 := h.c0
  rw [hm] at e0 e1
  obtain ⟨n, hn⟩ : ∃ n, xs.length = n := ⟨_, rfl⟩
  rw [hn] at c0 hk
  have hst := run_store_str
  have c0a := cell_al c0
  have e0a := cell_al e0
  have e1a := cell_al e1
  clear h hm hn c0 e0 e1
  go_enter Try.func24, Try.ntmps24
  go_wp2
  exact bodyPost_ret (v := .tuple #[msgV m, .bool true]) (by simp [results, msgV, Try.results24, go_sem]) rfl ⟨rfl, (Below.refl _ w).alloc (Nat.le_refl _) _⟩

set_option maxRecDepth 100000 in
theorem at_miss (h : MailAt O w p a c g xs) (i : Int) (hi : i < 0 ∨ (xs.length : Int) ≤ i) :
    Calls Try.prog 24 #[.pointer (some ⟨p, 0, none⟩), .int .i64 i] w fun e w' => e = .returned (.tuple #[msgV zeroM, .bool false]) ∧ Below w.heap.size w w' := by
  have c0 := h.c0
  obtain ⟨n, hn⟩ : ∃ n, xs.length = n := ⟨_, rfl⟩
  rw [hn] at c0 hi
  have hst := run_store_str
  have c0a := cell_al c0
  clear h hn c0
  by_cases h0 : i < 0
  · clear hi
    go_enter Try.func24, Try.ntmps24
    go_wp2
    exact bodyPost_ret (v := .tuple #[msgV zeroM, .bool false]) (by simp [results, msgV, zeroM, Try.results24, go_sem]) rfl ⟨rfl, ((Below.refl _ w).alloc (Nat.le_refl _) _).alloc (by simp) _⟩
  · have h1 : (n : Int) ≤ i := by omega
    clear hi
    go_enter Try.func24, Try.ntmps24
    go_wp2
    exact bodyPost_ret (v := .tuple #[msgV zeroM, .bool false]) (by simp [results, msgV, zeroM, Try.results24, go_sem]) rfl ⟨rfl, ((Below.refl _ w).alloc (Nat.le_refl _) _).alloc (by simp) _⟩

end
end Go.Proofs.Ytgjbafpjllfdeaa
