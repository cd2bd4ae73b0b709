import Derived.Test.YtbpfpldahmfjaaaGreatDoorProg
import Derived.Test.YtbpfpldahmfjaaaGreatDoorLK9
import Derived.WalkKit
import Derived.WalkSpells
import Derived.WalkLawsBesides
import Derived.Laws.CopyOwn
import Derived.Deep.Draws
import Derived.Deep.QuietTactic
import Derived.BigQuiet
import Derived.Laws.MathBits
import Derived.Laws.BytesArg
import Derived.Lib.OthersKept
import Derived.Deep.RegionWith
import Derived.WalkMore
import Derived.Deep.LoopGhost
import Derived.Deep.RegionHeld3
set_option linter.unusedVariables false
set_option linter.unusedSimpArgs false
namespace Go.Proofs.YtbpfpldahmfjaaaGreatDoor.Li
open Go.RowKit Lb
/-- A whole number as a quotient. -/
def WholeF (w w' : World) (e : Ending) (n : Int) : Prop :=
  ∃ an cn ln ad cd ld, e = .returned (.agg #[.bool (decide (n < 0)), .slice an (List.length ln) cn, .slice ad (List.length ld) cd]) ∧ ln.length ≤ cn ∧ ld.length ≤ cd ∧ Rd w' an ln ∧ Rd w' ad ld ∧ Lim ln ∧ Lim ld ∧ Nrm ln ∧ Nrm ld ∧ val ln = n.natAbs ∧ val ld = 1 ∧ Keep w w'
set_option maxRecDepth 100000 in
set_option maxHeartbeats 800000 in
theorem Whole_form (n : Int) (w : World) (h1 : -9223372036854775808 ≤ n) (h2 : n ≤ 9223372036854775807) :
    Calls Tryz.prog 14 #[.int .i64 n] w fun e w' => WholeF w w' e n := by
  have hk : Keep w (w.alloc (Obj.cells #[Value.bool false, Value.slice none 0 0, Value.slice none 0 0] 37)) := (Keep.refl w).alloc _
  have hbox := Box.new w (Value.bool false) (Value.slice none 0 0) (Value.slice none 0 0)
  obtain ⟨m, hm⟩ : ∃ m, n.natAbs = m := ⟨_, rfl⟩
  have hF := fun wx => From_any m wx (by omega)
  have Hm : Hid (n.natAbs = m) := hm
  by_cases hneg : n < 0
  · have hd : decide (n < 0) = true := by simp; omega
    have q : IntKind.u64.wrap (-IntKind.u64.wrap n) = (m : Int) := by rw [IntKind.wrap_u64, IntKind.wrap_u64]; omega
    have Hd : Hid (decide (n < 0) = true) := hd
    clear hm
    go_enter Tryz.func14, Tryz.ntmps14
    go_wp2_with fail
    generalize w.alloc _ = w1 at hk hbox ⊢
    refine (hF w1).mono ?_
    rintro e w2 ⟨v2, l2, rfl, o2, m2, p2, e2, k2⟩
    obtain ⟨a2, c2, rfl, hc2, r2⟩ := o2.shape
    have hb2 := hbox.keep k2
    have hkx : Keep w2 (w2.alloc (Obj.cells #[Value.int IntKind.u32 1] 42)) := (Keep.refl w2).alloc _
    have hb3 := hb2.keep hkx
    have hnew : (w2.alloc (Obj.cells #[Value.int IntKind.u32 1] 42)).cell? ⟨w2.heap.size, 0, none⟩ = some (.int .u32 1) := by
      have h1 : (w2.alloc (Obj.cells #[Value.int IntKind.u32 1] 42)).heap[w2.heap.size]? = some (Obj.cells #[Value.int IntKind.u32 1] 42 (0, 0)) := heap_alloc_new w2 _
      rw [cell_of_row _ _ 0 _ 42 (0, 0) h1]; rfl
    obtain ⟨z0, z1, z2⟩ := hb3.cells
    have f0 := hb3.free 0
    have f1 := hb3.free 1
    have f2 := hb3.free 2
    go_wp2_with fail
    generalize w2.alloc _ = w3 at hkx hb3 hnew z0 z1 z2 ⊢
    have hk3 := (hk.trans k2).trans hkx
    refine bodyPost_ret (v := .agg #[.bool true, .slice a2 l2.length c2, .slice (some ⟨w2.heap.size, 0, none⟩) 1 1]) (by simp [results, Tryz.results14, go_sem, World.cell?_setCell_other, World.cell?_setCell_same, z0, z1, z2]) rfl ⟨a2, c2, l2, some ⟨w2.heap.size, 0, none⟩, 1, [1], by rw [Hd.out]; rfl, hc2, by simp, rd_box (r2.keep hkx) hb3 (by simp) (by simp) (by simp) _ _ _, rd_box (one_limb hnew) hb3 (by simp) (by simp) (by simp) _ _ _, m2, by intro x hx; simp at hx; omega, p2, by simp [Nrm], by rw [e2, Hm.out], by simp [val], ?_⟩
    exact ((hk3.setCell (Nat.le_refl _) _).setCell (Nat.le_refl _) _).setCell (Nat.le_refl _) _
  · have hd : decide (n < 0) = false := by simp; omega
    have q : IntKind.u64.wrap n = (m : Int) := by rw [IntKind.wrap_u64]; omega
    have Hd : Hid (decide (n < 0) = false) := hd
    clear hm
    go_enter Tryz.func14, Tryz.ntmps14
    go_wp2_with fail
    generalize w.alloc _ = w1 at hk hbox ⊢
    refine (hF w1).mono ?_
    rintro e w2 ⟨v2, l2, rfl, o2, m2, p2, e2, k2⟩
    obtain ⟨a2, c2, rfl, hc2, r2⟩ := o2.shape
    have hb2 := hbox.keep k2
    have hkx : Keep w2 (w2.alloc (Obj.cells #[Value.int IntKind.u32 1] 42)) := (Keep.refl w2).alloc _
    have hb3 := hb2.keep hkx
    have hnew : (w2.alloc (Obj.cells #[Value.int IntKind.u32 1] 42)).cell? ⟨w2.heap.size, 0, none⟩ = some (.int .u32 1) := by
      have h1 : (w2.alloc (Obj.cells #[Value.int IntKind.u32 1] 42)).heap[w2.heap.size]? = some (Obj.cells #[Value.int IntKind.u32 1] 42 (0, 0)) := heap_alloc_new w2 _
      rw [cell_of_row _ _ 0 _ 42 (0, 0) h1]; rfl
    obtain ⟨z0, z1, z2⟩ := hb3.cells
    have f0 := hb3.free 0
    have f1 := hb3.free 1
    have f2 := hb3.free 2
    go_wp2_with fail
    generalize w2.alloc _ = w3 at hkx hb3 hnew z0 z1 z2 ⊢
    have hk3 := (hk.trans k2).trans hkx
    refine bodyPost_ret (v := .agg #[.bool false, .slice a2 l2.length c2, .slice (some ⟨w2.heap.size, 0, none⟩) 1 1]) (by simp [results, Tryz.results14, go_sem, World.cell?_setCell_other, World.cell?_setCell_same, z0, z1, z2]) rfl ⟨a2, c2, l2, some ⟨w2.heap.size, 0, none⟩, 1, [1], by rw [Hd.out]; rfl, hc2, by simp, rd_box (r2.keep hkx) hb3 (by simp) (by simp) (by simp) _ _ _, rd_box (one_limb hnew) hb3 (by simp) (by simp) (by simp) _ _ _, m2, by intro x hx; simp at hx; omega, p2, by simp [Nrm], by rw [e2, Hm.out], by simp [val], ?_⟩
    exact ((hk3.setCell (Nat.le_refl _) _).setCell (Nat.le_refl _) _).setCell (Nat.le_refl _) _
end Go.Proofs.YtbpfpldahmfjaaaGreatDoor.Li
