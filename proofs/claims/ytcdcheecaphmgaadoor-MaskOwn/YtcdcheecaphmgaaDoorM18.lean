import Derived.Test.YtcdcheecaphmgaaDoorM16
set_option linter.unusedVariables false
set_option linter.unusedSimpArgs false
namespace Go.Proofs.YtcdcheecaphmgaaDoor
open Go.RowKit Go.Shelf
theorem lvG_ok {L : List Nd} {m : Nat} (h : lvG L m = 0) : lvE L = 0 ∧ lackB L m = false := by
  unfold lvG at h
  by_cases hE : lvE L = 0
  · refine ⟨hE, ?_⟩
    rw [if_neg (by simpa using hE)] at h
    cases hk : lackB L m
    · rfl
    · rw [hk] at h; simp at h
  · rw [if_pos hE] at h; exact absurd h hE
set_option maxRecDepth 100000 in
set_option maxHeartbeats 1000000 in
theorem Reach_any (a ax : Option Addr) (cap cx : Nat) (out : Int) (L : List Nd) (xs : List Nat) (hLn : L.length ≤ 2199023255552) (hxl : xs.length ≤ 17592186044416) (w : World) (hrd : RdN w a L) (hxd : RdF w ax xs) :
    Calls Tryd.prog 20 #[.agg #[.int .i64 out, .slice a L.length cap], .slice ax xs.length cx] w fun e w' => ∃ v, e = .returned (.tuple #[v, .int .i64 (lvG L xs.length)]) ∧ (lvG L xs.length ≠ 0 → v = .slice none 0 0) ∧ (∀ b, lvG L xs.length = 0 → Bt (shp L) b 0 → ∃ l g, v = .slice (some ⟨g, 0, none⟩) (l : List Nat).length l.length ∧ w.heap.size ≤ g ∧ Bi.Row w' g l ∧ Bi.mkl b.nl (lftF (flm L xs (b.mks 0))) l) ∧ Keep w w' := by
  have k0 : Keep w (w.alloc (Obj.cells #[Value.int IntKind.i64 out, Value.slice a L.length cap] 24)) := (Keep.refl w).alloc _
  have tb : (w.alloc (Obj.cells #[Value.int IntKind.i64 out, Value.slice a L.length cap] 24)).heap[w.heap.size]? = some (Obj.cells #[Value.int IntKind.i64 out, Value.slice a L.length cap] 24 (0, 0)) := heap_alloc_new w _
  have hC := leavesFor_any a ax cap xs.length cx out L hLn hxl _ (hrd.keep k0)
  go_enter Tryd.func20, Tryd.ntmps20
  go_wp2_with fail
  generalize w.alloc (Obj.cells #[Value.int IntKind.i64 out, Value.slice a L.length cap] 24) = w1 at *
  refine hC.mono ?_
  rintro e w2 ⟨v, rfl, h1, h2, k2⟩
  have k02 := k0.trans k2
  by_cases hF : lvG L xs.length = 0
  · have c1 : (lvG L xs.length != 0) = false := by rw [bne_eq_false_iff_eq]; exact hF
    obtain ⟨hE, hlk⟩ := lvG_ok hF
    obtain ⟨-, hR, hT, b, hb, hlv, hn⟩ := lvE_ok hE
    have t2 := (k2.block _ (Array.getElem?_eq_some_iff.1 tb).1).trans tb
    have x0 := cell_of_row _ _ 0 _ 24 (0, 0) t2
    have x1 := cell_of_row _ _ 1 _ 24 (0, 0) t2
    simp only [List.getElem?_toArray, List.getElem?_cons_zero, List.getElem?_cons_succ] at x0 x1
    obtain ⟨h1, -⟩ := h1 hF
    obtain ⟨av, cv, rfl, -⟩ := h1.shape
    have hM := reachOf_any a ax cap cx out L xs hLn hxl hR hT hb hn hlk w2 (hrd.keep k02) (hxd.keep k02)
    have hln : (lvs L).length = b.nl := by rw [hlv, b.lv_len]
    rw [hln]
    replace hF : Hid _ := hF
    replace hE : Hid _ := hE
    replace hlk : Hid _ := hlk
    replace hlv : Hid _ := hlv
    replace hln : Hid _ := hln
    clear hC h1 h2 t2
    go_wp2_with fail
    refine hM.mono ?_
    rintro e w3 ⟨l, g, rfl, hg, hr, hmk, k3⟩
    replace hr : Hid _ := hr
    replace hmk : Hid _ := hmk
    clear hM
    go_wp2_with fail
    go_ret2
    exact ⟨.slice (some ⟨g, 0, none⟩) l.length l.length, by rw [hF.out]; rfl, fun h => absurd hF.out h, fun b2 _ h2 => ⟨l, g, rfl, Nat.le_trans k02.le hg, hr.out, by rw [← hb.one h2]; exact hmk.out⟩, k02.trans k3⟩
  · have c1 : (lvG L xs.length != 0) = true := by rw [bne_iff_ne]; exact hF
    have h2 := h2 hF
    subst h2
    replace hF : Hid _ := hF
    clear hC h1
    go_wp2_with fail
    go_ret2
    exact ⟨.slice none 0 0, rfl, fun _ => rfl, fun b h _ => absurd h hF.out, k02⟩
set_option maxRecDepth 100000 in
set_option maxHeartbeats 1000000 in
theorem Exit_any (a ax : Option Addr) (cap cx : Nat) (out : Int) (L : List Nd) (xs : List Nat) (hLn : L.length ≤ 2199023255552) (hxl : xs.length ≤ 17592186044416) (w : World) (hTab : Bi.Tab w) (hrd : RdN w a L) (hxd : RdF w ax xs) :
    Calls Tryd.prog 22 #[.agg #[.int .i64 out, .slice a L.length cap], .slice ax xs.length cx] w fun e w' => ∃ (k : Nat) (v : Int), e = .returned (.tuple #[.int .i64 (k : Nat), .int .i64 v, .int .i64 (lvG L xs.length)]) ∧ (lvG L xs.length ≠ 0 → k = 0 ∧ v = 0) ∧ (∀ b, lvG L xs.length = 0 → Bt (shp L) b 0 → k = extI L xs b ∧ v = (L.getD (b.lv.getD (extI L xs b) 0) nd0).vl) ∧ Keep w w' := by
  have k0 : Keep w (w.alloc (Obj.cells #[Value.int IntKind.i64 out, Value.slice a L.length cap] 24)) := (Keep.refl w).alloc _
  have tb : (w.alloc (Obj.cells #[Value.int IntKind.i64 out, Value.slice a L.length cap] 24)).heap[w.heap.size]? = some (Obj.cells #[Value.int IntKind.i64 out, Value.slice a L.length cap] 24 (0, 0)) := heap_alloc_new w _
  have hC := leavesFor_any a ax cap xs.length cx out L hLn hxl _ (hrd.keep k0)
  go_enter Tryd.func22, Tryd.ntmps22
  go_wp2_with fail
  generalize w.alloc (Obj.cells #[Value.int IntKind.i64 out, Value.slice a L.length cap] 24) = w1 at *
  refine hC.mono ?_
  rintro e w2 ⟨v, rfl, h1, h2, k2⟩
  have k02 := k0.trans k2
  by_cases hF : lvG L xs.length = 0
  · have c1 : (lvG L xs.length != 0) = false := by rw [bne_eq_false_iff_eq]; exact hF
    obtain ⟨hE, hlk⟩ := lvG_ok hF
    obtain ⟨-, hR, hT, b, hb, hlv, hn⟩ := lvE_ok hE
    have t2 := (k2.block _ (Array.getElem?_eq_some_iff.1 tb).1).trans tb
    have x0 := cell_of_row _ _ 0 _ 24 (0, 0) t2
    have x1 := cell_of_row _ _ 1 _ 24 (0, 0) t2
    simp only [List.getElem?_toArray, List.getElem?_cons_zero, List.getElem?_cons_succ] at x0 x1
    obtain ⟨h1, -⟩ := h1 hF
    obtain ⟨hx1, hx2, hx3⟩ := ext_left hR hT xs hb
    have hln : (lvs L).length = b.nl := by rw [hlv, b.lv_len]
    obtain ⟨gl, cl, rfl, hcl, -, hlc⟩ := OwnI.cells h1 (by rw [hln]; exact b.nl_pos)
    have hM := reachOf_any a ax cap cx out L xs hLn hxl hR hT hb hn hlk w2 (hrd.keep k02) (hxd.keep k02)
    obtain ⟨ee, hee⟩ : ∃ ee, extI L xs b = ee := ⟨_, rfl⟩
    rw [hee] at hx1 hx2 hx3
    have hle := hlc ee (by rw [hln]; exact hx1)
    obtain ⟨nd, hnd⟩ : ∃ nd, b.lv.getD ee 0 = nd := ⟨_, rfl⟩
    rw [hlv, hnd] at hle
    have hndL : nd < L.length := by
      have h3 : nd ∈ b.lv := by
        rw [← hnd, List.getD_eq_getElem?_getD, List.getElem?_eq_getElem (by rw [b.lv_len]; exact hx1)]
        exact List.getElem_mem _
      refine ord_lt hT.wi nd ?_
      rw [ord_bt hT hb]
      rw [← hb.pre_lv] at h3
      exact (List.mem_filter.1 h3).1
    rw [hln]
    replace hF : Hid _ := hF
    replace hE : Hid _ := hE
    replace hlk : Hid _ := hlk
    replace hlv : Hid _ := hlv
    replace hln : Hid _ := hln
    replace hnd : Hid _ := hnd
    replace hee : Hid _ := hee
    replace t2 : Hid _ := t2
    clear hC h1 h2 hlc
    go_wp2_with fail
    refine hM.mono ?_
    rintro e w3 ⟨l, g, rfl, hg, hr, hmk, k3⟩
    have hlow := low_eq hmk hx1 hx2 hx3
    have hql : l.length ≤ 65 := by rw [hmk.1]; omega
    have hrr : Bi.Rd w3 (some ⟨g, 0, none⟩) l := fun j hj => ⟨g, 0, rfl, by rw [Nat.zero_add]; exact hr.cell j hj⟩
    have hT3 : Bi.Tab w3 := Bi.Tab.keep hTab (k02.trans k3)
    have hL := Bi.Lowest_any (some ⟨g, 0, none⟩) l.length l w3 (by omega) hrr hmk.2.1 hT3
    rw [hlow] at hL
    have k03 := k02.trans k3
    have t3 := (k3.block _ (Array.getElem?_eq_some_iff.1 t2.out).1).trans t2.out
    have y1 := cell_of_row _ _ 1 _ 24 (0, 0) t3
    simp only [List.getElem?_toArray, List.getElem?_cons_zero, List.getElem?_cons_succ] at y1
    have hle3 := k3.cell hle
    obtain ⟨bb, o, ca, cpn, rfl, hN⟩ := hrd.keep k03 nd hndL
    have n1 := hN.c1
    have hxi : (ee : Int) < (b.nl : Int) := by omega
    have hxb : ee ≤ 4096 := by omega
    have hndi : (nd : Int) < (L.length : Int) := by omega
    have hndb : nd ≤ 2199023255552 := by omega
    obtain ⟨V, hV⟩ : ∃ V, (L.getD nd nd0).vl = V := ⟨_, rfl⟩
    rw [hV] at n1
    replace hr : Hid _ := hr
    replace hmk : Hid _ := hmk
    replace hrr : Hid _ := hrr
    replace hlow : Hid _ := hlow
    replace hV : Hid _ := hV
    clear hM hN t3
    go_wp2_with fail
    refine hL.mono ?_
    rintro e w4 ⟨rfl, rfl⟩
    clear hL
    go_wp2_with fail
    go_region
    all_goals
      go_simp
      go_wp2_with fail
      go_ret3
      exact ⟨ee, V, by rw [hF.out]; rfl, fun h => absurd hF.out h, fun b2 _ h2 => by rw [← hb.one h2, hee.out, hnd.out, hV.out]; exact ⟨rfl, rfl⟩, Keep.drew k03⟩
  · have c1 : (lvG L xs.length != 0) = true := by rw [bne_iff_ne]; exact hF
    have h2 := h2 hF
    subst h2
    replace hF : Hid _ := hF
    clear hC h1
    go_wp2_with fail
    go_ret3
    exact ⟨0, 0, rfl, fun _ => ⟨rfl, rfl⟩, fun b h _ => absurd h hF.out, k02⟩
end Go.Proofs.YtcdcheecaphmgaaDoor
set_option linter.unusedVariables false
set_option linter.unusedSimpArgs false
namespace Go.Proofs.YtcdcheecaphmgaaDoor
open Go.RowKit Go.Shelf
/-- The nodes that lives asks of. -/
def smp : List Nd := [⟨2, 0, 1, 4602678819172646912, [], 2, 2, 1⟩, ⟨1, 30, 0, 0, [], 0, 0, 0⟩, ⟨3, 0, 0, 0, [1, 3], 1, 3, 4⟩, ⟨1, 10, 0, 0, [], 0, 0, 0⟩, ⟨1, 20, 0, 0, [], 0, 0, 0⟩]
def bsm : BT := .node 0 (.node 2 (.leaf 3) (.leaf 4)) (.leaf 1)
theorem smp_shE : shE smp = 0 := by kernel_rfl
theorem smp_bt : Bt (shp smp) bsm 0 := .node (by decide) (.node (by decide) (.leaf (by decide)) (.leaf (by decide))) (.leaf (by decide))
theorem smp_lvE : lvE smp = 0 := by kernel_rfl
theorem smp_lack : lackB smp 2 = false := by decide
theorem smp_lvG : lvG smp 2 = 0 := by unfold lvG; rw [smp_lvE, smp_lack]; rfl
theorem smp_mks : bsm.mks 0 = [(0, 0, 2), (2, 0, 1)] := by decide
theorem smp_ext : extI smp [4611686018427387904, 4603579539098121011] bsm = 2 := by kernel_rfl
theorem smp_flm : flm smp [4611686018427387904, 0] (bsm.mks 0) = [(2, 0, 1)] := by kernel_rfl
theorem smp_six : Bi.mkl bsm.nl (lftF [(2, 0, 1)]) [6] := by
  refine ⟨rfl, by intro x hx; simp at hx; omega, ?_⟩
  intro i
  by_cases h : i < 64
  · have : ∀ i, i < 64 → Bi.hs [6] i = (decide (i < bsm.nl) && lftF [(2, 0, 1)] i) := by decide
    exact this i h
  · have e1 : ([6] : List Nat).getD (i / 64) 0 = 0 := by
      rw [List.getD_eq_getElem?_getD, List.getElem?_eq_none_iff.2 (by simp; omega)]; rfl
    unfold Bi.hs
    rw [e1, show decide (i < bsm.nl) = false from decide_eq_false (by simp [bsm, BT.nl]; omega)]
    simp
end Go.Proofs.YtcdcheecaphmgaaDoor
