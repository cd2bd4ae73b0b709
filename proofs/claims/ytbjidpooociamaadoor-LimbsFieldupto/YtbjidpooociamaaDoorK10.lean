import Derived.Test.YtbjidpooociamaaDoorK9
namespace Go.Proofs.YtbjidpooociamaaDoor
open Go.RowKit Lb
/-- A whole number as a quotient. -/
def WholeF (w w' : World) (e : Ending) (n : Int) : Prop :=
  ∃ an cn ln ad cd ld, e = .returned (.agg #[.bool (decide (n < 0)), .slice an (List.length ln) cn, .slice ad (List.length ld) cd]) ∧ ln.length ≤ cn ∧ ld.length ≤ cd ∧ Rd w' an ln ∧ Rd w' ad ld ∧ Lim ln ∧ Lim ld ∧ Nrm ln ∧ Nrm ld ∧ val ln = n.natAbs ∧ val ld = 1 ∧ Keep w w'
set_option maxRecDepth 100000 in
set_option maxHeartbeats 800000 in
theorem Whole_form (n : Int) (w : World) (h1 : -9223372036854775808 ≤ n) (h2 : n ≤ 9223372036854775807) :
    Calls Tryd.prog 48 #[.int .i64 n] w fun e w' => WholeF w w' e n := by
  have hk : Keep w (w.alloc (Obj.cells #[Value.bool false, Value.slice none 0 0, Value.slice none 0 0] 47)) := (Keep.refl w).alloc _
  have hbox := Box.new w (Value.bool false) (Value.slice none 0 0) (Value.slice none 0 0)
  obtain ⟨m, hm⟩ : ∃ m, n.natAbs = m := ⟨_, rfl⟩
  have hF := fun wx => From_any m wx (by omega)
  have Hm : Hid (n.natAbs = m) := hm
  by_cases hneg : n < 0
  · have hd : decide (n < 0) = true := by simp; omega
    have q : IntKind.u64.wrap (-IntKind.u64.wrap n) = (m : Int) := by rw [IntKind.wrap_u64, IntKind.wrap_u64]; omega
    have Hd : Hid (decide (n < 0) = true) := hd
    clear hm
    go_enter Tryd.func48, Tryd.ntmps48
    go_wp2_with fail
    generalize w.alloc _ = w1 at hk hbox ⊢
    refine (hF w1).mono ?_
    rintro e w2 ⟨v2, l2, rfl, o2, m2, p2, e2, k2⟩
    obtain ⟨a2, c2, rfl, hc2, r2⟩ := o2.shape
    have hb2 := hbox.keep k2
    have hkx : Keep w2 (w2.alloc (Obj.cells #[Value.int IntKind.u32 1] 62)) := (Keep.refl w2).alloc _
    have hb3 := hb2.keep hkx
    have hnew : (w2.alloc (Obj.cells #[Value.int IntKind.u32 1] 62)).cell? ⟨w2.heap.size, 0, none⟩ = some (.int .u32 1) := by
      have h1 : (w2.alloc (Obj.cells #[Value.int IntKind.u32 1] 62)).heap[w2.heap.size]? = some (Obj.cells #[Value.int IntKind.u32 1] 62 (0, 0)) := heap_alloc_new w2 _
      rw [cell_of_row _ _ 0 _ 62 (0, 0) h1]; rfl
    obtain ⟨z0, z1, z2⟩ := hb3.cells
    have f0 := hb3.free 0
    have f1 := hb3.free 1
    have f2 := hb3.free 2
    go_wp2_with fail
    generalize w2.alloc _ = w3 at hkx hb3 hnew z0 z1 z2 ⊢
    have hk3 := (hk.trans k2).trans hkx
    refine bodyPost_ret (v := .agg #[.bool true, .slice a2 l2.length c2, .slice (some ⟨w2.heap.size, 0, none⟩) 1 1]) (by simp [results, Tryd.results48, go_sem, World.cell?_setCell_other, World.cell?_setCell_same, z0, z1, z2]) rfl ⟨a2, c2, l2, some ⟨w2.heap.size, 0, none⟩, 1, [1], by rw [Hd.out]; rfl, hc2, by simp, rd_box (r2.keep hkx) hb3 (by simp) (by simp) (by simp) _ _ _, rd_box (one_limb hnew) hb3 (by simp) (by simp) (by simp) _ _ _, m2, by intro x hx; simp at hx; omega, p2, by simp [Nrm], by rw [e2, Hm.out], by simp [val], ?_⟩
    exact ((hk3.setCell (Nat.le_refl _) _).setCell (Nat.le_refl _) _).setCell (Nat.le_refl _) _
  · have hd : decide (n < 0) = false := by simp; omega
    have q : IntKind.u64.wrap n = (m : Int) := by rw [IntKind.wrap_u64]; omega
    have Hd : Hid (decide (n < 0) = false) := hd
    clear hm
    go_enter Tryd.func48, Tryd.ntmps48
    go_wp2_with fail
    generalize w.alloc _ = w1 at hk hbox ⊢
    refine (hF w1).mono ?_
    rintro e w2 ⟨v2, l2, rfl, o2, m2, p2, e2, k2⟩
    obtain ⟨a2, c2, rfl, hc2, r2⟩ := o2.shape
    have hb2 := hbox.keep k2
    have hkx : Keep w2 (w2.alloc (Obj.cells #[Value.int IntKind.u32 1] 62)) := (Keep.refl w2).alloc _
    have hb3 := hb2.keep hkx
    have hnew : (w2.alloc (Obj.cells #[Value.int IntKind.u32 1] 62)).cell? ⟨w2.heap.size, 0, none⟩ = some (.int .u32 1) := by
      have h1 : (w2.alloc (Obj.cells #[Value.int IntKind.u32 1] 62)).heap[w2.heap.size]? = some (Obj.cells #[Value.int IntKind.u32 1] 62 (0, 0)) := heap_alloc_new w2 _
      rw [cell_of_row _ _ 0 _ 62 (0, 0) h1]; rfl
    obtain ⟨z0, z1, z2⟩ := hb3.cells
    have f0 := hb3.free 0
    have f1 := hb3.free 1
    have f2 := hb3.free 2
    go_wp2_with fail
    generalize w2.alloc _ = w3 at hkx hb3 hnew z0 z1 z2 ⊢
    have hk3 := (hk.trans k2).trans hkx
    refine bodyPost_ret (v := .agg #[.bool false, .slice a2 l2.length c2, .slice (some ⟨w2.heap.size, 0, none⟩) 1 1]) (by simp [results, Tryd.results48, go_sem, World.cell?_setCell_other, World.cell?_setCell_same, z0, z1, z2]) rfl ⟨a2, c2, l2, some ⟨w2.heap.size, 0, none⟩, 1, [1], by rw [Hd.out]; rfl, hc2, by simp, rd_box (r2.keep hkx) hb3 (by simp) (by simp) (by simp) _ _ _, rd_box (one_limb hnew) hb3 (by simp) (by simp) (by simp) _ _ _, m2, by intro x hx; simp at hx; omega, p2, by simp [Nrm], by rw [e2, Hm.out], by simp [val], ?_⟩
    exact ((hk3.setCell (Nat.le_refl _) _).setCell (Nat.le_refl _) _).setCell (Nat.le_refl _) _
set_option maxRecDepth 100000 in
set_option maxHeartbeats 800000 in
theorem rWhole_form (n : Int) (w : World) (h1 : -9223372036854775808 ≤ n) (h2 : n ≤ 9223372036854775807) :
    Calls Tryd.prog 49 #[.int .i64 n] w fun e w' => WholeF w w' e n := by
  have hk : Keep w (w.alloc (Obj.cells #[Value.bool false, Value.slice none 0 0, Value.slice none 0 0] 47)) := (Keep.refl w).alloc _
  have hbox := Box.new w (Value.bool false) (Value.slice none 0 0) (Value.slice none 0 0)
  obtain ⟨m, hm⟩ : ∃ m, n.natAbs = m := ⟨_, rfl⟩
  have hF := fun wx => rFrom_any m wx (by omega)
  have hF1 := fun wx => rFrom_any 1 wx (by omega)
  have Hm : Hid (n.natAbs = m) := hm
  by_cases hneg : n < 0
  · have hd : decide (n < 0) = true := by simp; omega
    have hq : (m : Int) = (-(n + 1) + 1) := by omega
    have hFn : ∀ wx, Calls Tryd.prog 20 #[.int .u64 (-(n + 1) + 1)] wx fun e w' => ∃ v l, e = .returned v ∧ Own wx.heap.size w' v l ∧ Lim l ∧ Nrm l ∧ val l = m ∧ Keep wx w' := fun wx => by
      have := rFrom_any m wx (by omega)
      rw [hq] at this
      exact this
    have Hd : Hid (decide (n < 0) = true) := hd
    have HS : Hid (RS true m 1 = true) := by show _ = _; unfold RS; rw [if_neg (by omega)]
    have HN : Hid (RN m 1 = m) := by show _ = _; simp [RN]
    have HD : Hid (RD m 1 = 1) := by show _ = _; simp [RD]
    have hml : m < 18446744073709551616 := by omega
    clear hm hF hq
    go_enter Tryd.func49, Tryd.ntmps49
    go_wp2_with fail
    generalize w.alloc _ = w1 at hk hbox ⊢
    refine (hFn w1).mono ?_
    rintro e w2 ⟨v2, l2, rfl, o2, m2, p2, e2, k2⟩
    obtain ⟨a2, c2, rfl, hc2, r2⟩ := o2.shape
    have j2 := len_two p2 (by omega)
    go_wp2_with fail
    refine (hF1 w2).mono ?_
    rintro e w3 ⟨v3, l3, rfl, o3, m3, p3, e3, k3⟩
    obtain ⟨a3, c3, rfl, hc3, r3⟩ := o3.shape
    have j3 := len_two p3 (by omega)
    have hO := rOver_form true a2 a3 c2 c3 l2 l3 w3 hc2 hc3 (by omega) (by omega) (r2.keep k3) r3 m2 m3
    rw [e2, e3] at hO
    clear hFn hF1
    go_wp2_with fail
    refine hO.mono ?_
    rintro e w4 ⟨an, cn, ln, ad, cd, ld, rfl, u1, t1, u2, t2, u3, t3, u4, t4, u5, t5, k4⟩
    clear hO
    rw [HS.out]
    have hb4 := ((hbox.keep k2).keep k3).keep k4
    have hk4 := ((hk.trans k2).trans k3).trans k4
    have hkx : Keep w4 (w4.alloc (Obj.cells #[Value.bool true, Value.slice an ln.length cn, Value.slice ad ld.length cd] 47)) := (Keep.refl w4).alloc _
    have hb5 := hb4.keep hkx
    obtain ⟨z0, z1, z2⟩ := hb5.cells
    have f0 := hb5.free 0
    have f1 := hb5.free 1
    have f2 := hb5.free 2
    generalize RE 1 = re
    go_wp2_with fail
    generalize w4.alloc _ = w5 at hkx hb5 z0 z1 z2 ⊢
    have hk5 := hk4.trans hkx
    refine bodyPost_ret (v := .agg #[.bool true, .slice an ln.length cn, .slice ad ld.length cd]) (by simp [results, Tryd.results49, go_sem, World.cell?_setCell_other, World.cell?_setCell_same, z0, z1, z2]) rfl ⟨an, cn, ln, ad, cd, ld, by rw [Hd.out], u1, t1, rd_box (u2.keep hkx) hb5 (by simp) (by simp) (by simp) _ _ _, rd_box (t2.keep hkx) hb5 (by simp) (by simp) (by simp) _ _ _, u3, t3, u4, t4, by rw [u5, HN.out, Hm.out], by rw [t5, HD.out], ?_⟩
    exact ((hk5.setCell (Nat.le_refl _) _).setCell (Nat.le_refl _) _).setCell (Nat.le_refl _) _
  · have hd : decide (n < 0) = false := by simp; omega
    have hq : (m : Int) = n := by omega
    have hFn : ∀ wx, Calls Tryd.prog 20 #[.int .u64 n] wx fun e w' => ∃ v l, e = .returned v ∧ Own wx.heap.size w' v l ∧ Lim l ∧ Nrm l ∧ val l = m ∧ Keep wx w' := fun wx => by
      have := rFrom_any m wx (by omega)
      rw [hq] at this
      exact this
    have Hd : Hid (decide (n < 0) = false) := hd
    have HS : Hid (RS false m 1 = false) := by show _ = _; unfold RS; split <;> rfl
    have HN : Hid (RN m 1 = m) := by show _ = _; simp [RN]
    have HD : Hid (RD m 1 = 1) := by show _ = _; simp [RD]
    have hml : m < 18446744073709551616 := by omega
    clear hm hF hq
    go_enter Tryd.func49, Tryd.ntmps49
    go_wp2_with fail
    generalize w.alloc _ = w1 at hk hbox ⊢
    refine (hFn w1).mono ?_
    rintro e w2 ⟨v2, l2, rfl, o2, m2, p2, e2, k2⟩
    obtain ⟨a2, c2, rfl, hc2, r2⟩ := o2.shape
    have j2 := len_two p2 (by omega)
    go_wp2_with fail
    refine (hF1 w2).mono ?_
    rintro e w3 ⟨v3, l3, rfl, o3, m3, p3, e3, k3⟩
    obtain ⟨a3, c3, rfl, hc3, r3⟩ := o3.shape
    have j3 := len_two p3 (by omega)
    have hO := rOver_form false a2 a3 c2 c3 l2 l3 w3 hc2 hc3 (by omega) (by omega) (r2.keep k3) r3 m2 m3
    rw [e2, e3] at hO
    clear hFn hF1
    go_wp2_with fail
    refine hO.mono ?_
    rintro e w4 ⟨an, cn, ln, ad, cd, ld, rfl, u1, t1, u2, t2, u3, t3, u4, t4, u5, t5, k4⟩
    clear hO
    rw [HS.out]
    have hb4 := ((hbox.keep k2).keep k3).keep k4
    have hk4 := ((hk.trans k2).trans k3).trans k4
    have hkx : Keep w4 (w4.alloc (Obj.cells #[Value.bool false, Value.slice an ln.length cn, Value.slice ad ld.length cd] 47)) := (Keep.refl w4).alloc _
    have hb5 := hb4.keep hkx
    obtain ⟨z0, z1, z2⟩ := hb5.cells
    have f0 := hb5.free 0
    have f1 := hb5.free 1
    have f2 := hb5.free 2
    generalize RE 1 = re
    go_wp2_with fail
    generalize w4.alloc _ = w5 at hkx hb5 z0 z1 z2 ⊢
    have hk5 := hk4.trans hkx
    refine bodyPost_ret (v := .agg #[.bool false, .slice an ln.length cn, .slice ad ld.length cd]) (by simp [results, Tryd.results49, go_sem, World.cell?_setCell_other, World.cell?_setCell_same, z0, z1, z2]) rfl ⟨an, cn, ln, ad, cd, ld, by rw [Hd.out], u1, t1, rd_box (u2.keep hkx) hb5 (by simp) (by simp) (by simp) _ _ _, rd_box (t2.keep hkx) hb5 (by simp) (by simp) (by simp) _ _ _, u3, t3, u4, t4, by rw [u5, HN.out, Hm.out], by rw [t5, HD.out], ?_⟩
    exact ((hk5.setCell (Nat.le_refl _) _).setCell (Nat.le_refl _) _).setCell (Nat.le_refl _) _
end Go.Proofs.YtbjidpooociamaaDoor
