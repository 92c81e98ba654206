/- The contract of tabulariumlaw05.messages. -/
import Derived.Test.YtgjbafpjllfdeaaMailF6
namespace Go.Proofs.Ytgjbafpjllfdeaa
open Go.RowKit

/-- Messages that lie in a row. -/
structure Msgs (w : World) (a : Option Addr) (b : Nat) (ms : List Msg) : Prop where
  addr : 0 < ms.length → a = some ⟨b, 0, none⟩
  c0 : ∀ j (hj : j < ms.length), w.cell? ⟨b, j * 2, none⟩ = some (.int .i64 ms[j].t)
  c1 : ∀ j (hj : j < ms.length), w.cell? ⟨b, j * 2 + 1, none⟩ = some (.string ms[j].d)

theorem Msgs.below {w w' : World} {a : Option Addr} {b : Nat} {ms : List Msg} (h : Msgs w a b ms) (hb : Below w.heap.size w w') : Msgs w' a b ms :=
  ⟨h.addr, fun j hj => bel_cell hb (h.c0 j hj), fun j hj => bel_cell hb (h.c1 j hj)⟩

theorem Cel.msgs {O : Nat → Prop} {w : World} {a : Option Addr} {n c : Nat} {ms : List Msg} {g : Option Nat} (h : Cel O w 2 (.slice a n c) n (rowC msgC ms) g) (hn : ms.length = n) : ∃ b, Msgs w a b ms ∧ (0 < n → g = some b) := by
  by_cases h0 : n = 0
  · exact ⟨0, ⟨fun hp => by omega, fun j hj => by omega, fun j hj => by omega⟩, fun hp => by omega⟩
  · obtain ⟨b, rfl, rfl⟩ := h.at2 (by omega)
    have e : ∀ j (hj : j < ms.length), ∀ i v, (msgC ms[j])[i]? = some v → w.cell? ⟨b, j * 2 + i, none⟩ = some v := fun j hj => by
      obtain ⟨b', h1, h2, h3⟩ := h.elem wideM hj hn
      cases h1; exact h3
    exact ⟨b, ⟨fun _ => rfl, fun j hj => e j hj 0 _ rfl, fun j hj => e j hj 1 _ rfl⟩, fun _ => rfl⟩

set_option maxRecDepth 100000 in
set_option maxHeartbeats 1000000 in
theorem messages_val (a1 : Option Addr) (b1 c1 : Nat) (a2 : Option Addr) (b2 c2 n : Nat) (ms : List Msg) (w : World) (hn : ms.length = n) (hle : n ≤ 1000) (h1 : Msgs w a1 b1 ms) (h2 : Msgs w a2 b2 ms) :
    Calls Try.prog 19 #[.slice a1 n c1, .slice a2 n c2] w fun e w' => e = .returned (.bool true) ∧ ∃ d, w' = w.drewN d := by
  have HN : Hid _ := hn
  have H1 : Hid _ := h1
  have H2 : Hid _ := h2
  clear hn h1 h2
  go_enter Try.func19, Try.ntmps19
  go_wp2
  go_loopw [5] (fun v wr => ∃ i d : Nat, i ≤ n ∧ v = .int .i64 i ∧ wr = w.drewN d) (fun v _ => n - (intOf v).toNat)
  case atStart => exact ⟨0, 0, by omega, rfl, rfl⟩
  case round =>
    obtain ⟨i, d, hi, rfl, hd⟩ := hrel
    by_cases hlt : i < n
    · have e1 : i < ms.length := by rw [HN.out]; exact hlt
      have hb : Below w.heap.size w wr := by rw [hd]; exact below_drewN (Below.refl w.heap.size w) d
      have k1 := H1.out.below hb
      have k2 := H2.out.below hb
      obtain rfl := k1.addr (by omega)
      obtain rfl := k2.addr (by omega)
      have q1 := k1.c0 i e1
      have q2 := k1.c1 i e1
      have q3 := k2.c0 i e1
      have q4 := k2.c1 i e1
      have HD : Hid _ := hd
      clear hd k1 k2 hb
      generalize ms[i] = m at *
      obtain ⟨mt, md⟩ := m
      go_wp2
      go_quiet (fail)
      go_wp2
      go_roundw
      case rel => exact ⟨i + 1, d + nq, by omega, by go_num, by rw [HD.out, World.drewN_drewN]⟩
      case measure => simp [intOf]; omega
    · have hge : n ≤ i := by omega
      clear hlt
      go_wp2
      go_ret
      exact ⟨rfl, d, by first | rfl | exact hd⟩

end Go.Proofs.Ytgjbafpjllfdeaa
