/- The contract of tabulariumlaw04.does. -/
import Derived.Test.YtlgfhmedenlbcaaPlayTwo
namespace Go.Proofs.Ytlgfhmedenlbcaa
open Go.RowKit

set_option maxRecDepth 100000 in
set_option maxHeartbeats 4000000 in
theorem does_val {w0 w : World} {pf0 : Option Nat} {B0 : Option Obj} {pd px : Nat} {ds : DS} (h : Half w0 pf0 B0 w pd px ds ds) (u : DeedV) (hok : DeedOk w0 u) (hud : u.d.size ≤ 140737488355328) (m : Nat) (hm : u.ks.length = m) :
    Calls Try.prog 12 #[.pointer (some ⟨pd, 0, none⟩), .pointer (some ⟨px, 0, none⟩), .agg #[.int .i64 u.k, .string u.f, .string u.t, .string u.d, .int .i64 u.n, .slice u.ka m u.kc]] w fun e w' => e = .returned (.bool true) ∧ ∃ ds' pf B, Half w0 pf B w' pd px ds' ds' := by
  obtain ⟨uk, uf, ut, ud, un, ka, kb, ko, kc, ks⟩ := u
  obtain ⟨Q, hQ⟩ : ∃ Q, keepN uk % 8 = Q := ⟨_, rfl⟩
  have hQ8 : Q < 8 := by rw [← hQ]; exact Nat.mod_lt _ (by omega)
  have CP : Hid _ := fun w => pick_val uk 8 Q w hok.k (by omega) hQ
  have HOK : Hid (DeedOk w0 ⟨uk, uf, ut, ud, un, ka, kb, ko, kc, ks⟩) := hok
  have HM : Hid (ks.length = m) := hm
  have HUD : Hid (ud.size ≤ 140737488355328) := hud
  have hn : -9223372036854775808 ≤ un ∧ un ≤ 9223372036854775807 := hok.n
  obtain ⟨wa, hwa⟩ : ∃ wa, w.alloc (.cells #[.int .i64 uk, .string uf, .string ut, .string ud, .int .i64 un, .slice ka m kc] 31) = wa := ⟨_, rfl⟩
  have f0 : wa.cell? ⟨w.heap.size, 0, none⟩ = some (.int .i64 uk) := hwa ▸ World.cell?_alloc_new w _ _ 0
  have f1 : wa.cell? ⟨w.heap.size, 1, none⟩ = some (.string uf) := hwa ▸ World.cell?_alloc_new w _ _ 1
  have f2 : wa.cell? ⟨w.heap.size, 2, none⟩ = some (.string ut) := hwa ▸ World.cell?_alloc_new w _ _ 2
  have f3 : wa.cell? ⟨w.heap.size, 3, none⟩ = some (.string ud) := hwa ▸ World.cell?_alloc_new w _ _ 3
  have f4 : wa.cell? ⟨w.heap.size, 4, none⟩ = some (.int .i64 un) := hwa ▸ World.cell?_alloc_new w _ _ 4
  have f5 : wa.cell? ⟨w.heap.size, 5, none⟩ = some (.slice ka m kc) := hwa ▸ World.cell?_alloc_new w _ _ 5
  have hH : Half w0 (some w.heap.size) (wa.heap[w.heap.size]?) wa pd px ds ds := hwa ▸ h.box _
  have HH : Hid (Half w0 (some w.heap.size) (wa.heap[w.heap.size]?) wa pd px ds ds) := hH
  clear h hok hm hud hQ hH
  go_enter Try.func12, Try.ntmps12
  go_wp2_with fail
  clear hwa
  generalize w.heap.size = pf at *
  refine (CP.out _).mono ?_
  rintro e wp ⟨rfl, hwp⟩
  subst hwp
  have hQc : Q = 0 ∨ Q = 1 ∨ Q = 2 ∨ Q = 3 ∨ Q = 4 ∨ Q = 5 ∨ Q = 6 ∨ Q = 7 := by omega
  clear CP hQ8
  rename World => wb
  rcases hQc with rfl | rfl | rfl | rfl | rfl | rfl | rfl | rfl
  · go_wp2_with fail
    refine (d_append HH.out uf ud HOK.out.f HUD.out _ rfl rfl).mono ?_
    rintro e w5 ⟨rfl, h5⟩
    have k1 := (h5.cell rfl 1).trans f1
    have k3 := (h5.cell rfl 3).trans f3
    have H5 : Hid _ := h5
    clear h5
    go_wp2_with fail
    refine (x_append H5.out uf ud HOK.out.f HUD.out _ rfl rfl).mono ?_
    rintro e w6 ⟨rfl, h6⟩
    have H6 : Hid _ := h6
    clear h6
    go_wp2
    go_ret
    exact ⟨by simp, _, _, _, H6.out⟩
  · go_wp2_with fail
    refine (d_append HH.out uf ud HOK.out.f HUD.out _ rfl rfl).mono ?_
    rintro e w5 ⟨rfl, h5⟩
    have k1 := (h5.cell rfl 1).trans f1
    have k3 := (h5.cell rfl 3).trans f3
    have H5 : Hid _ := h5
    clear h5
    go_wp2_with fail
    refine (x_append H5.out uf ud HOK.out.f HUD.out _ rfl rfl).mono ?_
    rintro e w6 ⟨rfl, h6⟩
    have H6 : Hid _ := h6
    clear h6
    go_wp2
    go_ret
    exact ⟨by simp, _, _, _, H6.out⟩
  · go_wp2_with fail
    refine (d_sync HH.out uf HOK.out.f _ rfl rfl).mono ?_
    rintro e w5 ⟨rfl, h5⟩
    have k1 := (h5.cell rfl 1).trans f1
    have H5 : Hid _ := h5
    clear h5
    go_wp2_with fail
    refine (x_sync H5.out uf _ rfl rfl).mono ?_
    rintro e w6 ⟨rfl, h6⟩
    have H6 : Hid _ := h6
    clear h6
    go_wp2
    go_ret
    exact ⟨by simp, _, _, _, H6.out⟩
  · go_wp2_with fail
    refine (d_rename HH.out uf ut HOK.out.f HOK.out.t _ rfl rfl).mono ?_
    rintro e w5 ⟨rfl, h5⟩
    have k1 := (h5.cell rfl 1).trans f1
    have k2 := (h5.cell rfl 2).trans f2
    have H5 : Hid _ := h5
    clear h5
    go_wp2_with fail
    refine (x_rename H5.out uf ut HOK.out.t _ rfl rfl).mono ?_
    rintro e w6 ⟨rfl, h6⟩
    have H6 : Hid _ := h6
    clear h6
    go_wp2
    go_ret
    exact ⟨by simp, _, _, _, H6.out⟩
  · go_wp2_with fail
    refine (d_delete HH.out uf HOK.out.f _ rfl rfl).mono ?_
    rintro e w5 ⟨rfl, h5⟩
    have k1 := (h5.cell rfl 1).trans f1
    have H5 : Hid _ := h5
    clear h5
    go_wp2_with fail
    refine (x_delete H5.out uf _ rfl rfl).mono ?_
    rintro e w6 ⟨rfl, h6⟩
    have H6 : Hid _ := h6
    clear h6
    go_wp2
    go_ret
    exact ⟨by simp, _, _, _, H6.out⟩
  · go_wp2_with fail
    refine (d_fuse HH.out un _ (by omega) rfl).mono ?_
    rintro e w5 ⟨rfl, h5⟩
    have k1 := (h5.cell rfl 1).trans f1
    have k4 := (h5.cell rfl 4).trans f4
    have H5 : Hid _ := h5
    clear h5
    go_wp2_with fail
    refine (x_fuse H5.out un (by omega) rfl).mono ?_
    rintro e w6 ⟨rfl, h6⟩
    have H6 : Hid _ := h6
    clear h6
    have k16 := (H6.out.cell rfl 1).trans f1
    obtain ⟨T, hT⟩ : ∃ T, rdT ({ ds with fuse := max un 0 }) uf.data.toList = T := ⟨_, rfl⟩
    obtain ⟨E, hE⟩ : ∃ E, rdE ({ ds with fuse := max un 0 }) uf.data.toList = E := ⟨_, rfl⟩
    have HT : Hid _ := hT
    have HE : Hid _ := hE
    clear hT hE
    go_wp2_with fail
    refine (d_read H6.out uf HOK.out.f T E HT.out HE.out).mono ?_
    rintro e w7 ⟨rfl, h7⟩
    have k7 := (h7.cell rfl 1).trans f1
    have H7 : Hid _ := h7
    clear h7
    go_wp2_with fail
    refine (x_read H7.out uf T E HT.out HE.out).mono ?_
    rintro e w8 ⟨rfl, hw8⟩
    subst hw8
    go_wp2
    go_ret
    exact ⟨by simp, _, _, _, H7.out⟩
  · go_wp2_with fail
    refine (d_crash HH.out ka kb ko kc m ks HM.out (by have := HOK.out.kl; simp only at this; rw [HM.out] at this; exact this) HOK.out.ks HOK.out.kz).mono ?_
    rintro e w5 ⟨rfl, h5⟩
    have k1 := (h5.cell rfl 1).trans f1
    have k5 := (h5.cell rfl 5).trans f5
    have H5 : Hid _ := h5
    clear h5
    go_wp2_with fail
    refine (x_crash ka kb ko kc m ks H5.out HM.out (by have := HOK.out.kl; simp only at this; rw [HM.out] at this; exact this) HOK.out.ks HOK.out.kz).mono ?_
    rintro e w6 ⟨rfl, h6⟩
    have H6 : Hid _ := h6
    clear h6
    have k16 := (H6.out.cell rfl 1).trans f1
    obtain ⟨T, hT⟩ : ∃ T, rdT (⟨ds.room, 0, false, crashL ks ds.S⟩) uf.data.toList = T := ⟨_, rfl⟩
    obtain ⟨E, hE⟩ : ∃ E, rdE (⟨ds.room, 0, false, crashL ks ds.S⟩) uf.data.toList = E := ⟨_, rfl⟩
    have HT : Hid _ := hT
    have HE : Hid _ := hE
    clear hT hE
    go_wp2_with fail
    refine (d_read H6.out uf HOK.out.f T E HT.out HE.out).mono ?_
    rintro e w7 ⟨rfl, h7⟩
    have k7 := (h7.cell rfl 1).trans f1
    have H7 : Hid _ := h7
    clear h7
    go_wp2_with fail
    refine (x_read H7.out uf T E HT.out HE.out).mono ?_
    rintro e w8 ⟨rfl, hw8⟩
    subst hw8
    go_wp2
    go_ret
    exact ⟨by simp, _, _, _, H7.out⟩
  · obtain ⟨T, hT⟩ : ∃ T, rdT (ds) uf.data.toList = T := ⟨_, rfl⟩
    obtain ⟨E, hE⟩ : ∃ E, rdE (ds) uf.data.toList = E := ⟨_, rfl⟩
    have HT : Hid _ := hT
    have HE : Hid _ := hE
    clear hT hE
    go_wp2_with fail
    refine (d_read HH.out uf HOK.out.f T E HT.out HE.out).mono ?_
    rintro e w7 ⟨rfl, h7⟩
    have k7 := (h7.cell rfl 1).trans f1
    have H7 : Hid _ := h7
    clear h7
    go_wp2_with fail
    refine (x_read H7.out uf T E HT.out HE.out).mono ?_
    rintro e w8 ⟨rfl, hw8⟩
    subst hw8
    go_wp2
    go_ret
    exact ⟨by simp, _, _, _, H7.out⟩

end Go.Proofs.Ytlgfhmedenlbcaa
