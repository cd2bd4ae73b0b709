import Derived.Test.YtinjikoocegooaaGreatDoorProg
import Derived.Test.YtinjikoocegooaaGreatDoorYT5
import Derived.Test.YtinjikoocegooaaGreatDoorYS5
import Derived.RegionTactic
import Derived.Orders
import Derived.OrdersIn
import Derived.RegionIn
import Derived.Test.YtinjikoocegooaaGreatDoorYX4
import Derived.Test.YtinjikoocegooaaGreatDoorYV1
import Derived.Test.YtinjikoocegooaaGreatDoorYU1
import Derived.Test.YtinjikoocegooaaGreatDoorYT6
import Derived.WalkKit
import Derived.WalkSpells
import Derived.WalkLawsBesides
import Derived.Deep.Draws
import Derived.Deep.QuietTactic
import Derived.BigQuiet
import Derived.Laws.Externs
import Derived.Laws.CopyOwn
import Derived.RangeFuncBox
import Derived.RangeFuncLeaves
import Derived.RangeFuncCalls
import Derived.RangeFuncRecord
import Derived.Below
import Derived.Shelf.Abstract
import Derived.OwnWalkIn
import Derived.TacticsInMore
import Derived.LoopNIn
import Derived.LoopIn
import Derived.Sort.LoopGhostIn
import Derived.Deep.RegionLaw
import Derived.Deep.RegionWith
import Derived.Deep.RegionHeld3
import Derived.Stop.RegionWithIn
import Derived.Test.YtinjikoocegooaaGreatDoorYR1
import Derived.Test.YtinjikoocegooaaGreatDoorV2
import Derived.Laws.StructEq
import Derived.Lib.BufferWrite
import Derived.Lib.UnsafeStr
set_option linter.unusedVariables false
set_option linter.unusedSimpArgs false
namespace Go.Proofs.YtinjikoocegooaaGreatDoor
theorem ord_nodup {t : Sh} {n : Nat} (ht : In t n) : (ord t n).Nodup := (go_mem ht _ _ _ (Way.start ht) (by simp)).2
theorem ord_len {t : Sh} {n : Nat} (ht : In t n) : (ord t n).length ≤ n := nodup_len (ord_nodup ht) (ord_lt ht)
end Go.Proofs.YtinjikoocegooaaGreatDoor
set_option linter.unusedVariables false
namespace Go.Proofs.YtinjikoocegooaaGreatDoor
section
variable {F : Fence} {n : Nat} {P : Program} {ops : Array Oper} {Q : Exit → Act → World → Prop}
/-- The same inside a fence. -/
theorem wpAnyIn_inv (Inv : Array Bool → Act → World → Prop) (hsz : ∀ l a w, Inv l a w → l.size = ops.size)
    (hstep : ∀ l a w i, Inv l a w → i ∈ Region.ready .any ops l → wpOpIn F n P ops Q i (Inv (l.setIfInBounds i true)) a w)
    (hend : ∀ l a w, Inv l a w → Region.ready .any ops l = [] → Q .normal a w) :
    ∀ (fuel : Nat) (l : Array Bool) (a : Act) (w : World), Inv l a w → l.toList.count false ≤ fuel → wpAnyIn F n P .any ops Q fuel l a w
  | 0, l, a, w, h, hc => by
    have hr : Region.ready .any ops l = [] := by
      rw [List.eq_nil_iff_forall_not_mem]
      intro i hi
      obtain ⟨h1, o, ho, -⟩ := mem_ready.1 hi
      have hlt : i < ops.size := (Array.getElem?_eq_some_iff.1 ho).1
      have hlt2 : i < l.size := by rw [hsz l a w h]; exact hlt
      have hg : l[i] = false := by simpa [Array.getD, hlt2] using h1
      have : false ∈ l.toList := by rw [← hg]; simp
      have := List.count_pos_iff.2 this
      omega
    exact ⟨hr, hend l a w h hr⟩
  | fuel + 1, l, a, w, h, hc => by
    refine ⟨hend l a w h, fun i hi => ?_⟩
    obtain ⟨h1, o, ho, -⟩ := mem_ready.1 hi
    have hlt : i < ops.size := (Array.getElem?_eq_some_iff.1 ho).1
    have hlt2 : i < l.size := by rw [hsz l a w h]; exact hlt
    have hg : l.toList[i]? = some false := by
      have : l[i] = false := by simpa [Array.getD, hlt2] using h1
      simp [hlt2, this]
    refine wpOpIn_mono (fun a' w' h' => wpAnyIn_inv Inv hsz hstep hend fuel _ a' w' h' ?_) (hstep l a w i h hi)
    have := count_set hg
    rw [Array.toList_setIfInBounds]
    omega
theorem wpIn_region_inv {id : Nat} {a : Act} {w : World} (Inv : Array Bool → Act → World → Prop) (hm : P.follows .mixedOrders = true) (hsz : ∀ l a w, Inv l a w → l.size = ops.size)
    (h0 : Inv (Array.replicate ops.size false) a w.drew)
    (hstep : ∀ l a w i, Inv l a w → i ∈ Region.ready .any ops l → wpOpIn F n P ops Q i (Inv (l.setIfInBounds i true)) a w)
    (hend : ∀ l a w, Inv l a w → Region.ready .any ops l = [] → Q .normal a w) : (Code.region id ops true).wpIn F n P Q a w :=
  wpIn_region_any hm (wpAnyIn_inv Inv hsz hstep hend _ _ _ _ h0 (by simp))
theorem wpOpIn_stp {i : Nat} {o : Oper} {K : Act → World → Prop} {a : Act} {w : World} (ho : ops[i]? = some o)
    (h : ∀ K' : Act → World → Prop, (∀ a w, K a w → K' a w) → if Region.wanted o (yielded ops a.tmps) = true then Oper.wpIn F n P o a w K' Q else ((∀ f, o.about P w a.eval = some f → F.fn f) ∧ K' (a.put o.dst undef) w)) : wpOpIn F n P ops Q i K a w := by
  have := h K (fun _ _ h => h)
  unfold wpOpIn
  rw [ho]
  exact this
end
end Go.Proofs.YtinjikoocegooaaGreatDoor
set_option linter.unusedVariables false
set_option linter.unusedSimpArgs false
namespace Go.Proofs.YtinjikoocegooaaGreatDoor
open Go.RowKit Go.Shelf
set_option maxRecDepth 100000 in
theorem copyN_any (a : Option Addr) (c : Nat) (l : List Int) (w : World) (hl : l.length ≤ 17592186044416) (hlc : l.length ≤ c) (hr : RdI w a l) :
    Calls Tryz.prog 67 #[.slice a l.length c] w fun e w' => ∃ v, e = .returned v ∧ OwnZ 3 w.heap.size w' v l ∧ Keep w w' := by
  rcases a with _ | ad
  · obtain rfl : l = [] := by
      by_cases h : l = []
      · exact h
      · obtain ⟨b, o, e, -⟩ := hr 0 (List.length_pos_iff.2 h); cases e
    go_enter Tryz.func67, Tryz.ntmps67
    go_wp2_with fail
    go_ret
    exact ⟨_, rfl, OwnZ.nil _ _ _, Keep.refl _⟩
  · go_enter Tryz.func67, Tryz.ntmps67
    go_wp2_with (at_builtin; refine wpList_copyN rfl _ _ rfl l ad c ?_ ?_ hr hl ?_; rotate_left 2; intro v w1 h1 k1)
    go_ret
    exact ⟨_, rfl, h1, k1⟩
    all_goals rfl
end Go.Proofs.YtinjikoocegooaaGreatDoor
set_option linter.unusedVariables false
set_option linter.unusedSimpArgs false
namespace Go.Proofs.YtinjikoocegooaaGreatDoor
open Go.RowKit Go.Shelf
/-- append(l, tree). -/
theorem wpList_appT (B : Nat) (w : World) {ops : Array Oper} {rest : List Oper} {o : Oper} {a : Act} {Q : Exit → Act → World → Prop} (hgd : o.guard = none) (s x : Operand)
    (hop : o.op = .call { callee := .builtin .append, args := #[s, x], argTypes := #[24, 24] }) (l : List (Int × Option Addr × Nat × Nat)) (y : Int × Option Addr × Nat × Nat) (v : Value) (hs : a.eval s = v) (hown : OwnT B w v l) (hB : B ≤ w.heap.size) (ad : Addr) (c : Nat) (hx : a.eval x = .slice (some ad) 1 c)
    (hnews : ∀ j u, (UT [y])[j]? = some u → w.cell? (ad.add j) = some u) (hlen : l.length + 1 ≤ 4398046511104)
    (hK : ∀ v' w', OwnT B w' v' (l ++ [y]) → w.grownBy w' v.ownBlock → (v'.ownBlock = v.ownBlock ∨ v'.ownBlock = some w.heap.size) → wpList Tryz.prog ops Q rest (a.put o.dst v') w') :
    wpList Tryz.prog ops Q (o :: rest) a w := by
  refine wpList_plain hgd fun K hK' => ?_
  obtain ⟨v', w', hrun, r1, r2, r3⟩ := appT_sep B w o.type v l y hown hB ad c hnews hlen
  unfold Oper.wp
  simp [execOp, hop, resolve, invoke, builtin, hs, hx, hrun, Result.andThen]
  exact hK' _ _ (hK v' w' r1 r2 r3)
end Go.Proofs.YtinjikoocegooaaGreatDoor
set_option linter.unusedVariables false
set_option linter.unusedSimpArgs false
namespace Go.Proofs.YtinjikoocegooaaGreatDoor
open Go.RowKit Go.Shelf
attribute [local go_sem] run_store_float
/-- Eight stores into a row of eight. -/
theorem store8 (w : World) (g ty : Nat) (x0 x1 x2 x3 x4 x5 x6 x7 v0 v1 v2 v3 v4 v5 v6 v7 : Value) (h : w.heap[g]? = some (.cells #[x0, x1, x2, x3, x4, x5, x6, x7] ty (0, 0))) :
    ((((((((w.setCell ⟨g, 0, none⟩ v0).setCell ⟨g, 1, none⟩ v1).setCell ⟨g, 2, none⟩ v2).setCell ⟨g, 3, none⟩ v3).setCell ⟨g, 4, none⟩ v4).setCell ⟨g, 5, none⟩ v5).setCell ⟨g, 6, none⟩ v6).setCell ⟨g, 7, none⟩ v7).heap[g]? = some (.cells #[v0, v1, v2, v3, v4, v5, v6, v7] ty (0, 0)) ∧
    ∀ b, b ≠ g → ((((((((w.setCell ⟨g, 0, none⟩ v0).setCell ⟨g, 1, none⟩ v1).setCell ⟨g, 2, none⟩ v2).setCell ⟨g, 3, none⟩ v3).setCell ⟨g, 4, none⟩ v4).setCell ⟨g, 5, none⟩ v5).setCell ⟨g, 6, none⟩ v6).setCell ⟨g, 7, none⟩ v7).heap[b]? = w.heap[b]? := by
  have a0 := heap_setCell_same w g 0 _ ty v0 h
  have a1 := heap_setCell_same _ g 1 _ ty v1 a0
  have a2 := heap_setCell_same _ g 2 _ ty v2 a1
  have a3 := heap_setCell_same _ g 3 _ ty v3 a2
  have a4 := heap_setCell_same _ g 4 _ ty v4 a3
  have a5 := heap_setCell_same _ g 5 _ ty v5 a4
  have a6 := heap_setCell_same _ g 6 _ ty v6 a5
  have a7 := heap_setCell_same _ g 7 _ ty v7 a6
  refine ⟨by simpa using a7, fun b hb => ?_⟩
  rw [neq_set _ _ _ _ b hb, neq_set _ _ _ _ b hb, neq_set _ _ _ _ b hb, neq_set _ _ _ _ b hb, neq_set _ _ _ _ b hb, neq_set _ _ _ _ b hb, neq_set _ _ _ _ b hb, neq_set _ _ _ _ b hb]
set_option maxRecDepth 100000 in
set_option maxHeartbeats 2000000 in
theorem copyNode_any (n : Nd) (ca : Option Addr) (cp : Nat) (w : World) (hr : RdI w ca n.cs) (hl : n.cs.length ≤ 17592186044416) (hc : n.cs.length ≤ cp) :
    Calls Tryz.prog 42 #[n.v ca cp] w fun e w' => ∃ va cc, e = .returned (n.v va cc) ∧ OwnZ 3 w.heap.size w' (.slice va n.cs.length cc) n.cs ∧ n.cs.length ≤ cc ∧ Keep w w' := by
  obtain ⟨w1, hw1, k1, s1, r0, r1⟩ := boxes2n w #[Value.int IntKind.u8 n.kd, Value.int IntKind.i64 n.vl, Value.int IntKind.i64 n.ft, Value.float FloatKind.f64 n.th, Value.slice ca n.cs.length cp, Value.int IntKind.u8 n.ms, Value.int IntKind.i64 n.lf, Value.int IntKind.i64 n.rt] #[Value.int IntKind.u8 0, Value.int IntKind.i64 0, Value.int IntKind.i64 0, Value.float FloatKind.f64 0, Value.slice none 0 0, Value.int IntKind.u8 0, Value.int IntKind.i64 0, Value.int IntKind.i64 0] 81 81
  have hC := copyN_any ca cp n.cs w1 hl hc (hr.keep k1)
  have c4 := cell_of_row w1 _ 4 _ 81 (0, 0) r0
  have hz0 : w.heap.size < w1.heap.size := (Array.getElem?_eq_some_iff.1 r0).1
  have hz1 : w.heap.size + 1 < w1.heap.size := (Array.getElem?_eq_some_iff.1 r1).1
  simp at c4
  replace hw1 : Hid _ := hw1
  replace r0 : Hid _ := r0
  replace r1 : Hid _ := r1
  unfold Nd.v
  go_enter Tryz.func42, Tryz.ntmps42
  go_wp2_with fail
  rw [hw1.out]
  refine hC.mono ?_
  rintro e w2 ⟨v, rfl, hO, k2⟩
  obtain ⟨va, cc, rfl, hcc, hrc⟩ := hO.shape
  have q0 := (k2.block _ hz0).trans r0.out
  have q1 := (k2.block _ hz1).trans r1.out
  have e4 := cell_of_row w2 _ 4 _ 81 (0, 0) q0
  have f4 := frozen_of_row w2 _ 4 _ 81 q0
  simp at e4
  have p0 := heap_setCell_same w2 w.heap.size 4 _ 81 (.slice va n.cs.length cc) q0
  have p1 := (neq_set w2 w.heap.size 4 (.slice va n.cs.length cc) (w.heap.size + 1) (by omega)).trans q1
  simp at p0
  have a0 := cell_of_row _ _ 0 _ 81 (0, 0) p0
  have a1 := cell_of_row _ _ 1 _ 81 (0, 0) p0
  have a2 := cell_of_row _ _ 2 _ 81 (0, 0) p0
  have a3 := cell_of_row _ _ 3 _ 81 (0, 0) p0
  have a4 := cell_of_row _ _ 4 _ 81 (0, 0) p0
  have a5 := cell_of_row _ _ 5 _ 81 (0, 0) p0
  have a6 := cell_of_row _ _ 6 _ 81 (0, 0) p0
  have a7 := cell_of_row _ _ 7 _ 81 (0, 0) p0
  have b0 := cell_of_row _ _ 0 _ 81 (0, 0) p1
  have b1 := cell_of_row _ _ 1 _ 81 (0, 0) p1
  have b2 := cell_of_row _ _ 2 _ 81 (0, 0) p1
  have b3 := cell_of_row _ _ 3 _ 81 (0, 0) p1
  have b4 := cell_of_row _ _ 4 _ 81 (0, 0) p1
  have b5 := cell_of_row _ _ 5 _ 81 (0, 0) p1
  have b6 := cell_of_row _ _ 6 _ 81 (0, 0) p1
  have b7 := cell_of_row _ _ 7 _ 81 (0, 0) p1
  have d0 := frozen_of_row _ _ 0 _ 81 p1
  have d1 := frozen_of_row _ _ 1 _ 81 p1
  have d2 := frozen_of_row _ _ 2 _ 81 p1
  have d3 := frozen_of_row _ _ 3 _ 81 p1
  have d4 := frozen_of_row _ _ 4 _ 81 p1
  have d5 := frozen_of_row _ _ 5 _ 81 p1
  have d6 := frozen_of_row _ _ 6 _ 81 p1
  have d7 := frozen_of_row _ _ 7 _ 81 p1
  simp at a0 b0 a1 b1 a2 b2 a3 b3 a4 b4 a5 b5 a6 b6 a7 b7
  clear hrc hC
  replace p1 : Hid _ := p1
  replace p0 : Hid _ := p0
  replace q0 : Hid _ := q0
  replace q1 : Hid _ := q1
  go_wp2_with fail
  obtain ⟨F2, F1⟩ := store8 _ _ 81 _ _ _ _ _ _ _ _ (Value.int IntKind.u8 n.kd) (Value.int IntKind.i64 n.vl) (Value.int IntKind.i64 n.ft) (Value.float FloatKind.f64 n.th) (Value.slice va n.cs.length cc) (Value.int IntKind.u8 n.ms) (Value.int IntKind.i64 n.lf) (Value.int IntKind.i64 n.rt) p1.out
  try simp only [Exit.inBlock, Exit.then]
  refine bodyPost_ret (results_cell_row rfl _ _ (w.heap.size + 1) 81 _ (0, 0) _ rfl F2 Tryz.underlying81 rfl (by kernel_rfl)) rfl ?_
  refine ⟨va, cc, rfl, ?_, hcc, ?_⟩
  · refine (hO.mono (by omega)).same ?_
    intro b hb
    have := (hO.block hb).1
    rw [F1 b (by omega), neq_set w2 w.heap.size 4 _ b (by omega)]
  · have kk : Keep w (w2.setCell ⟨w.heap.size, 4, none⟩ (.slice va n.cs.length cc)) := (k1.trans k2).setCell (p := ⟨w.heap.size, 4, none⟩) (Nat.le_refl _) _
    exact ((((((((kk.setCell (p := ⟨w.heap.size + 1, 0, none⟩) (by show w.heap.size ≤ w.heap.size + 1; omega) _).setCell (p := ⟨w.heap.size + 1, 1, none⟩) (by show w.heap.size ≤ w.heap.size + 1; omega) _).setCell (p := ⟨w.heap.size + 1, 2, none⟩) (by show w.heap.size ≤ w.heap.size + 1; omega) _).setCell (p := ⟨w.heap.size + 1, 3, none⟩) (by show w.heap.size ≤ w.heap.size + 1; omega) _).setCell (p := ⟨w.heap.size + 1, 4, none⟩) (by show w.heap.size ≤ w.heap.size + 1; omega) _).setCell (p := ⟨w.heap.size + 1, 5, none⟩) (by show w.heap.size ≤ w.heap.size + 1; omega) _).setCell (p := ⟨w.heap.size + 1, 6, none⟩) (by show w.heap.size ≤ w.heap.size + 1; omega) _).setCell (p := ⟨w.heap.size + 1, 7, none⟩) (by show w.heap.size ≤ w.heap.size + 1; omega) _)
end Go.Proofs.YtinjikoocegooaaGreatDoor
set_option linter.unusedVariables false
set_option linter.unusedSimpArgs false
namespace Go.Proofs.YtinjikoocegooaaGreatDoor
open Go.RowKit Go.Shelf
theorem i5 : (Tryz.prog.info? 5).map (fun i => (i.zero, i.size, i.bytes)) = some (some (.int .u8 0), 1, 1) := by kernel_rfl
set_option maxRecDepth 100000 in
set_option maxHeartbeats 2000000 in
theorem clone87_any (s : ByteArray) (w : World) (hl : s.size ≤ 281474976710656) : Calls Tryz.prog 66 #[.string s] w fun e w' => e = .returned (.string s) ∧ Keep w w' := by
  by_cases h0 : s.size = 0
  · have h1 : ((s.size : Int) == 0) = true := by simp [h0]
    have hs : s = ⟨#[]⟩ := ByteArray.ext (Array.eq_empty_of_size_eq_zero h0)
    subst hs
    go_enter Tryz.func66, Tryz.ntmps66
    go_wp2_with fail
    go_ret
    exact ⟨rfl, Keep.refl _⟩
  · obtain ⟨i0, hi, hz0, hz1, hz2⟩ := info_parts i5
    have hne : s.data.toList ≠ [] := fun e => h0 (by rw [Lib.size_eq, e]; rfl)
    obtain ⟨M, hM⟩ : ∃ M : Array Value, madeCells (Value.int .u8 0).cells (s.size * 1) = M := ⟨_, rfl⟩
    have hMs : M.size = s.size := by rw [← hM]; simp [madeCells]
    have r1 := fun (wx : World) => run_make (P := Tryz.prog) wx 129 5 i0 _ Tryz.underlying129 hi hz0 .i64 .i64 (s.size : Nat) (s.size : Nat) (by omega) (by omega) (by rw [hz2]; omega) (by omega)
    simp only [hz1, Int.toNat_natCast, hM] at r1
    have g1 : (w.alloc (.cells M 5)).heap[w.heap.size]? = some (.cells M 5 (0, 0)) := heap_alloc_new w _
    have r2 := fun (ty : Nat) => Lib.run_copy_row_string (P := Tryz.prog) (w.alloc (.cells M 5)) 129 9 ty 5 w.heap.size 0 s.size s.size s M 5 Tryz.underlying129 (by rw [hi]; simp [hz1]) g1 (Nat.le_refl _) (by omega)
    obtain ⟨Y, hY⟩ : ∃ Y : Array Value, (M.toList.take 0 ++ Lib.byteCells s.data.toList ++ M.toList.drop (0 + s.size)).toArray = Y := ⟨_, rfl⟩
    rw [hY] at r2
    have hYl : Y.toList = Lib.byteCells s.data.toList := by
      have e : M.toList.drop (0 + s.size) = [] := List.drop_eq_nil_of_le (by rw [Array.length_toList]; omega)
      rw [← hY, e]
      simp
    have hYs : Y.size = s.size := by rw [← Array.length_toList, hYl, Lib.byteCells_length, ← Lib.size_eq]
    have g2 : ((w.alloc (.cells M 5)).setRow w.heap.size Y).heap[w.heap.size]? = some (.cells Y 5 (0, 0)) := setRow_heap _ _ M _ 5 (0, 0) g1
    have r3 := fun (ty : Nat) => Lib.run_unsafeString_row (P := Tryz.prog) ((w.alloc (.cells M 5)).setRow w.heap.size Y) 130 3 ty 5 Tryz.underlying130 (by simp [Program.cellsOf, hi, hz1]) w.heap.size Y.size (by unfold World.shape?; rw [g2]) s.data.toList hne (by rw [← Lib.size_eq]; omega) (by rw [← Lib.size_eq]; omega)
      (fun j x hx => Lib.cells_of_row g2 Y.size j _ (by rw [List.take_of_length_le (by simp), hYl]; simp [Lib.byteCells, hx]))
    rw [← Lib.size_eq] at r3
    have kf : Keep w (((w.alloc (.cells M 5)).setRow w.heap.size Y).freeze ⟨w.heap.size, 0, none⟩ s.size) := by
      have k1 : Below w.heap.size w (w.alloc (.cells M 5)) := (Below.refl _ w).alloc (Nat.le_refl _) _
      have k2 : Below w.heap.size (w.alloc (.cells M 5)) ((w.alloc (.cells M 5)).setRow w.heap.size Y) := ⟨rfl, rfl, rfl, by simp, fun k hk => setRow_other _ _ _ _ (by omega)⟩
      exact Lib.below_freeze (k1.trans k2) (p := ⟨w.heap.size, 0, none⟩) (Nat.le_refl _) _
    have h1 : ((s.size : Int) == 0) = false := by rw [beq_eq_false_iff_ne]; omega
    have h2 : (s.size == 0) = false := by simpa using h0
    clear hY hM
    go_enter Tryz.func66, Tryz.ntmps66
    go_wp2_with fail
    go_ret
    exact ⟨rfl, kf⟩
set_option maxRecDepth 100000 in
theorem Clone_any (s : ByteArray) (w : World) (hl : s.size ≤ 281474976710656) : Calls Tryz.prog 41 #[.string s] w fun e w' => e = .returned (.string s) ∧ Keep w w' := by
  have h := clone87_any s w hl
  go_enter Tryz.func41, Tryz.ntmps41
  go_wp2_with fail
  refine h.mono ?_
  rintro e w1 ⟨rfl, k1⟩
  go_wp2_with fail
  go_ret
  exact ⟨rfl, k1⟩
end Go.Proofs.YtinjikoocegooaaGreatDoor
set_option linter.unusedVariables false
set_option linter.unusedSimpArgs false
namespace Go.Proofs.YtinjikoocegooaaGreatDoor
open Go.RowKit Go.Shelf
/-- append(l, text). -/
theorem wpList_appS (B : Nat) (w : World) {ops : Array Oper} {rest : List Oper} {o : Oper} {a : Act} {Q : Exit → Act → World → Prop} (hgd : o.guard = none) (s x : Operand)
    (hop : o.op = .call { callee := .builtin .append, args := #[s, x], argTypes := #[22, 22] }) (l : List ByteArray) (y : ByteArray) (v : Value) (hs : a.eval s = v) (hown : OwnS B w v l) (hB : B ≤ w.heap.size) (ad : Addr) (hx : a.eval x = .slice (some ad) 1 1)
    (hnews : w.cell? ad = some (.string y)) (hlen : l.length + 1 ≤ 8796093022208)
    (hK : ∀ v' w', OwnS B w' v' (l ++ [y]) → w.grownBy w' v.ownBlock → wpList Tryz.prog ops Q rest (a.put o.dst v') w') :
    wpList Tryz.prog ops Q (o :: rest) a w := by
  obtain ⟨i0, hi, hz0, hz1, hz2⟩ := info_parts i9
  refine wpList_append_own _ hgd s x 22 hop B 9 i0 _ 1 16 Tryz.underlying22 hi hz0 hz1 hz2 rfl (by decide) _ _ _ hs hown ad 1 1 (US [y]) hx (by simp [US]) ?_ ?_ ?_ ?_ hB ?_
  · intro j u hj
    match j, hj with
    | 0, hj =>
      simp [US] at hj
      subst hj
      simpa [Addr.add] using hnews
    | j + 1, hj => simp [US] at hj
  · intro u hu; obtain ⟨_, _, rfl⟩ := List.mem_map.1 hu; rfl
  · simp only [maxLen]; omega
  · omega
  · intro v' w1 h1 h2 _
    refine hK v' w1 ?_ h2
    unfold OwnS
    rw [List.length_append, US, List.map_append]
    exact h1
theorem store5 (w : World) (g ty : Nat) (x0 x1 x2 x3 x4 v0 v1 v2 v3 v4 : Value) (h : w.heap[g]? = some (.cells #[x0, x1, x2, x3, x4] ty (0, 0))) :
    (((((w.setCell ⟨g, 0, none⟩ v0).setCell ⟨g, 1, none⟩ v1).setCell ⟨g, 2, none⟩ v2).setCell ⟨g, 3, none⟩ v3).setCell ⟨g, 4, none⟩ v4).heap[g]? = some (.cells #[v0, v1, v2, v3, v4] ty (0, 0)) ∧
    ∀ b, b ≠ g → (((((w.setCell ⟨g, 0, none⟩ v0).setCell ⟨g, 1, none⟩ v1).setCell ⟨g, 2, none⟩ v2).setCell ⟨g, 3, none⟩ v3).setCell ⟨g, 4, none⟩ v4).heap[b]? = w.heap[b]? := by
  have a0 := heap_setCell_same w g 0 _ ty v0 h
  have a1 := heap_setCell_same _ g 1 _ ty v1 a0
  have a2 := heap_setCell_same _ g 2 _ ty v2 a1
  have a3 := heap_setCell_same _ g 3 _ ty v3 a2
  have a4 := heap_setCell_same _ g 4 _ ty v4 a3
  refine ⟨by simpa using a4, fun b hb => ?_⟩
  rw [neq_set _ _ _ _ b hb, neq_set _ _ _ _ b hb, neq_set _ _ _ _ b hb, neq_set _ _ _ _ b hb, neq_set _ _ _ _ b hb]
theorem OwnS.mono {B B' : Nat} {w : World} {v : Value} {l : List ByteArray} (h : OwnS B w v l) (hB : B' ≤ B) : OwnS B' w v l := by
  refine ⟨h.1, ?_⟩
  rcases h.2 with h2 | ⟨g, cap, cur, hv, hg, r⟩
  · exact .inl h2
  · exact .inr ⟨g, cap, cur, hv, Nat.le_trans hB hg, r⟩
set_option maxRecDepth 100000 in
set_option maxHeartbeats 2000000 in
theorem copyHead_any (nm : ByteArray) (fa : Option Addr) (fs : List ByteArray) (cf : Nat) (N : Int) (ba : Option Addr) (base : List Int) (cb : Nat) (ta : Option Addr) (tl ct : Nat) (w : World)
    (hnm : nm.size ≤ 281474976710656) (hf : RdS w fa fs) (hfz : ∀ j, j < fs.length → (fs.getD j ByteArray.empty).size ≤ 281474976710656) (hfl : fs.length ≤ 8796093022208) (hb : RdI w ba base) (hbc : base.length ≤ cb) (hbl : base.length ≤ 17592186044416) :
    Calls Tryz.prog 16 #[ens nm fa fs.length cf N ba base.length cb ta tl ct] w fun e w' => ∃ fa' cf' ba' cb', e = .returned (ens nm fa' fs.length cf' N ba' base.length cb' none 0 0) ∧ OwnS w.heap.size w' (.slice fa' fs.length cf') fs ∧ OwnZ 2 w.heap.size w' (.slice ba' base.length cb') base ∧ Keep w w' := by
  unfold ens
  obtain ⟨w1, hw1, k1, s1, r0, r1⟩ := boxes2n w #[Value.string nm, Value.slice fa fs.length cf, Value.int IntKind.i64 N, Value.slice ba base.length cb, Value.slice ta tl ct] #[Value.string { data := #[] }, Value.slice none 0 0, Value.int IntKind.i64 0, Value.slice none 0 0, Value.slice none 0 0] 26 26
  have hz0 : w.heap.size < w1.heap.size := (Array.getElem?_eq_some_iff.1 r0).1
  have hz1 : w.heap.size + 1 < w1.heap.size := (Array.getElem?_eq_some_iff.1 r1).1
  have hf1 := hf.keep k1
  have hb1 := hb.keep k1
  replace hw1 : Hid _ := hw1
  replace r0 : Hid _ := r0
  replace r1 : Hid _ := r1
  go_enter Tryz.func16, Tryz.ntmps16
  go_wp2_with fail
  rw [hw1.out]
  go_loopw [3, 9] (fun v iv wr => ∃ k : Nat, k ≤ fs.length ∧ iv = .int .i64 k ∧ OwnS w1.heap.size wr v (fs.take k) ∧ Keep w1 wr) (fun _ iv _ => fs.length - (intOf iv).toNat)
  case atStart => exact ⟨0, by omega, rfl, by simpa using OwnS.nil _ _, Keep.refl w1⟩
  case round =>
    obtain ⟨k, hk, rfl, hO, kw⟩ := hrel
    by_cases hkl : k < fs.length
    · have hkc : (k : Int) < (fs.length : Int) := by omega
      obtain ⟨b, o, rfl, c0⟩ := (hf1.keep kw) k hkl
      have hsz := hfz k hkl
      obtain ⟨q, hq⟩ : ∃ q, fs.getD k ByteArray.empty = q := ⟨_, rfl⟩
      rw [hq] at c0 hsz
      have hC := fun (wx : World) => Clone_any q wx hsz
      have HT : Hid (fs.take k ++ [q] = fs.take (k + 1)) := by
        show _ = _
        have e : q = fs[k] := by rw [← hq]; simp [List.getD, hkl]
        rw [e]
        exact List.take_append_getElem hkl
      have hKl : (fs.take k).length + 1 ≤ 8796093022208 := by simp; omega
      have hB4 := kw.le
      clear hq hsz
      go_wp2_with (first | (go_at_call 41; refine (hC _).mono ?_; rintro e w2 ⟨rfl, k2⟩) | (at_builtin; refine wpList_appS w1.heap.size _ rfl _ _ rfl (fs.take k) q u3 ?_ (hO.keep (k2.alloc _)) (Nat.le_trans hB4 (k2.alloc _).le) ⟨w2.heap.size, 0, none⟩ ?_ (by rw [cell_of_row _ _ 0 _ 9 (0, 0) (heap_alloc_new w2 _)]; rfl) hKl ?_; rotate_left 2; intro v5 w5 hO5 g5))
      · rw [HT.out] at hO5
        have k5 : Keep w1 w5 := Below.grown (kw.trans (k2.alloc _)) g5 (Nat.le_trans hB4 (k2.alloc _).le) (fun b hb => (hO.block hb).1)
        exact ⟨⟨k + 1, by omega, by go_num, hO5, k5⟩, by simp [intOf]; omega⟩
      all_goals rfl
    · have hkc : ¬ (k : Int) < (fs.length : Int) := by omega
      obtain rfl : k = fs.length := by omega
      rw [List.take_length] at hO
      obtain ⟨fa', cf', rfl, hcf, -⟩ := hO.shape
      have m0 := (kw.block _ hz0).trans r0.out
      have m1 := (kw.block _ hz1).trans r1.out
      have x0 := cell_of_row wr _ 0 _ 26 (0, 0) m0
      have x2 := cell_of_row wr _ 2 _ 26 (0, 0) m0
      have x3 := cell_of_row wr _ 3 _ 26 (0, 0) m0
      simp only [List.getElem?_toArray, List.getElem?_cons_zero, List.getElem?_cons_succ] at x0 x2 x3
      have hz0r : w.heap.size + 1 < wr.heap.size := (Array.getElem?_eq_some_iff.1 m1).1
      replace m0 : Hid _ := m0
      replace m1 : Hid _ := m1
      have hC := fun (wx : World) => Clone_any nm wx hnm
      have hL := fun (wx : World) (k : Keep wr wx) => copyZ_any ba cb base wx hbl hbc ((hb1.keep kw).keep k)
      go_wp2_with fail
      have xd0 : wr.drew.cell? ⟨w.heap.size, 0, none⟩ = some (Value.string nm) := x0
      have xd2 : wr.drew.cell? ⟨w.heap.size, 2, none⟩ = some (Value.int .i64 N) := x2
      have xd3 : wr.drew.cell? ⟨w.heap.size, 3, none⟩ = some (Value.slice ba base.length cb) := x3
      go_region_held3 (fun wx => wx.cell? ⟨w.heap.size, 0, none⟩ = some (Value.string nm) ∧ wx.cell? ⟨w.heap.size, 2, none⟩ = some (Value.int .i64 N) ∧ wx.cell? ⟨w.heap.size, 3, none⟩ = some (Value.slice ba base.length cb)) (first | with_reducible exact ⟨xd0, xd2, xd3⟩ | with_reducible exact ⟨p0, p2, p3⟩ | with_reducible exact ⟨q0, q2, q3⟩ | go_keep) (first
        | (go_at_call 41; refine (hC _).mono ?_; rintro e wA ⟨rfl, kA⟩; have kA0 : Keep wr wA := (Keep.refl wr).drew.trans kA; have p0 := kA0.cell x0; have p2 := kA0.cell x2; have p3 := kA0.cell x3)
        | (go_at_call 19; refine (hL _ kA0).mono ?_; rintro e wB ⟨vb, rfl, hOb, kB⟩; obtain ⟨ba', cb', rfl, hcb, -⟩ := hOb.shape; have kB0 := kA0.trans kB; have q0 := kB0.cell x0; have q2 := kB0.cell x2; have q3 := kB0.cell x3; have m6 := (kB0.block _ hz0r).trans m1.out; have y0 := cell_of_row _ _ 0 _ 26 (0, 0) m6; have y1 := cell_of_row _ _ 1 _ 26 (0, 0) m6; have y2 := cell_of_row _ _ 2 _ 26 (0, 0) m6; have y3 := cell_of_row _ _ 3 _ 26 (0, 0) m6; have y4 := cell_of_row _ _ 4 _ 26 (0, 0) m6; have f0 := frozen_of_row _ _ 0 _ 26 m6; have f1 := frozen_of_row _ _ 1 _ 26 m6; have f2 := frozen_of_row _ _ 2 _ 26 m6; have f3 := frozen_of_row _ _ 3 _ 26 m6; have f4 := frozen_of_row _ _ 4 _ 26 m6; simp only [List.getElem?_toArray, List.getElem?_cons_zero, List.getElem?_cons_succ] at y0 y1 y2 y3 y4; replace m6 : Hid _ := m6))
      all_goals
        go_simp
        go_wp2_with fail
        obtain ⟨F2, F1⟩ := store5 wB (w.heap.size + 1) 26 _ _ _ _ _ (.string nm) (.slice fa' fs.length cf') (.int .i64 N) (.slice ba' base.length cb') (.slice none 0 0) m6.out
        try simp only [Exit.inBlock, Exit.then]
        refine bodyPost_ret (results_cell_row rfl _ _ (w.heap.size + 1) 26 _ (0, 0) _ rfl F2 Tryz.underlying26 rfl (by kernel_rfl)) rfl ?_
        refine ⟨fa', cf', ba', cb', rfl, ?_, ?_, ?_⟩
        · have o2 := (hO.keep kB0).mono (B' := w.heap.size) (by omega)
          exact o2.same (fun b hb => F1 b (by have := (hO.block hb).1; omega))
        · have hle := kA0.le
          have hwr := kw.le
          have o2 := hOb.mono (B' := w.heap.size) (by omega)
          exact o2.same (fun b hb => F1 b (by have := (hOb.block hb).1; omega))
        · exact (((((k1.trans (kw.trans kB0)).setCell (p := ⟨w.heap.size + 1, 0, none⟩) (by show w.heap.size ≤ w.heap.size + 1; omega) _).setCell (p := ⟨w.heap.size + 1, 1, none⟩) (by show w.heap.size ≤ w.heap.size + 1; omega) _).setCell (p := ⟨w.heap.size + 1, 2, none⟩) (by show w.heap.size ≤ w.heap.size + 1; omega) _).setCell (p := ⟨w.heap.size + 1, 3, none⟩) (by show w.heap.size ≤ w.heap.size + 1; omega) _).setCell (p := ⟨w.heap.size + 1, 4, none⟩) (by show w.heap.size ≤ w.heap.size + 1; omega) _
end Go.Proofs.YtinjikoocegooaaGreatDoor
set_option linter.unusedVariables false
set_option linter.unusedSimpArgs false
namespace Go.Proofs.YtinjikoocegooaaGreatDoor
open Go.RowKit Go.Shelf
attribute [local go_sem] Oper.semAt_some
attribute [local go_sem] run_store_float
/-- Where each stands among the first ones. -/
def anF (n : Nat) (p : List Nat) : List Nat := p.zipIdx.foldl (fun a y => a.set y.1 y.2) (List.replicate n 0)
theorem anF_snoc (n : Nat) (p : List Nat) (x : Nat) : anF n (p ++ [x]) = (anF n p).set x p.length := by
  unfold anF
  rw [List.zipIdx_append, List.foldl_append]
  simp
theorem anF_len (n : Nat) (p : List Nat) : (anF n p).length = n := by
  have h : ∀ (l : List (Nat × Nat)) (a : List Nat), (l.foldl (fun a y => a.set y.1 y.2) a).length = a.length := by
    intro l
    induction l with
    | nil => intro a; rfl
    | cons y l ih => intro a; rw [List.foldl_cons, ih, List.length_set]
  unfold anF
  rw [h, List.length_replicate]
/-- make([]Node, 0, n). -/
theorem wpListIn_makeN {F : Fence} {m : Nat} (w : World) {ops : Array Oper} {rest : List Oper} {o : Oper} {a : Act} {Q : Exit → Act → World → Prop} (hg : o.guard = none) (l c : Operand) (hop : o.op = Op.makeSlice 46 l c) (kl kc : IntKind) (X C : Int) (n : Nat) (hl : a.eval l = .int kl X) (hc : a.eval c = .int kc C) (hL : X = 0) (hC : C = (n : Int)) (hn : n ≤ 2199023255552)
    (hK : ∀ cur : Array Value, cur.size = n * 8 → wpListIn F m Tryz.prog ops Q rest (a.put o.dst (.slice (some ⟨w.heap.size, 0, none⟩) 0 n)) (w.alloc (.cells cur 81))) :
    wpListIn F m Tryz.prog ops Q (o :: rest) a w := by
  refine wpListIn_plain hg fun K hK' => ?_
  obtain ⟨i, hi, hz0, hz1, hz2⟩ := info_parts i40
  have hr := run_make (P := Tryz.prog) w 46 81 i _ Tryz.underlying46 hi hz0 kl kc 0 n (by omega) (by omega) (by rw [hz2]; omega) (by omega)
  subst hL
  subst hC
  rw [hz1] at hr
  simp only [Int.toNat_natCast, Int.toNat_zero] at hr
  unfold Oper.wpIn
  refine ⟨?_, ?_⟩
  · simp [Oper.about, hop]
  · rw [Oper.semAt_plain F _ _ (by rw [hop]; intro c hc'; cases hc')]
    simp only [execOp, hop, hl, hc, hr, Result.andThen, Sem.run_bind, Sem.run_pure, Result.andThen_ok]
    exact hK' _ _ (hK _ (by simp [madeCells]))
/-- A row of nodes, as far as it is filled. -/
def RowK (w : World) (g n : Nat) (K : List (Nd × Option Addr × Nat)) : Prop := ∃ cur : Array Value, w.heap[g]? = some (.cells cur 81 (0, 0)) ∧ cur.size = n * 8 ∧ cur.toList.take (K.length * 8) = UN K
theorem RowK.same {w w' : World} {g n : Nat} {K : List (Nd × Option Addr × Nat)} (h : RowK w g n K) (e : w'.heap[g]? = w.heap[g]?) : RowK w' g n K := by
  obtain ⟨cur, h1, h2⟩ := h
  exact ⟨cur, e.trans h1, h2⟩
/-- What Canon holds between two rounds. -/
structure CnI (L : List Nd) (A : Nat) (w2 : World) (pre : List Nat) (T : Nat → Prop) (W : World) : Prop where
  row : RowI W A (anF L.length pre)
  bx : W.heap[A + 1]? = some (.cells #[.slice (some ⟨A, 0, none⟩) L.length L.length] 28 (0, 0))
  bl : W.heap[A + 3]? = some (.cells #[.slice (some ⟨A + 2, 0, none⟩) pre.length L.length] 46 (0, 0))
  kn : ∃ K : List (Nd × Option Addr × Nat), K.length = pre.length ∧ (∀ j, j < pre.length → (K.getD j nt0).1 = L.getD (pre.getD j 0) nd0 ∧ (K.getD j nt0).1.cs.length ≤ (K.getD j nt0).2.2) ∧ RowK W (A + 2) L.length K ∧
    (∀ j, j < pre.length → OwnZ 3 (A + 7) W (.slice (K.getD j nt0).2.1 (K.getD j nt0).1.cs.length (K.getD j nt0).2.2) (K.getD j nt0).1.cs) ∧
    (∀ j, j < pre.length → ∀ b, (Value.slice (K.getD j nt0).2.1 (K.getD j nt0).1.cs.length (K.getD j nt0).2.2).ownBlock = some b → ¬ T b)
  tb : ∀ g, T g → A + 4 ≤ g ∧ g < W.heap.size
  be : Below A w2 W
  sz : A + 5 ≤ W.heap.size
theorem CnI.st {L : List Nd} {A : Nat} {w2 : World} {pre : List Nat} {T : Nat → Prop} {W B : World} (h : CnI L A w2 pre T W) (hst : Stp T W B) : CnI L A w2 pre (more T W B) B := by
  obtain ⟨q1, q2, q3, ⟨K, n1, n2, n3, n4, n5⟩, q4, q5, q6⟩ := h
  have kp : ∀ g, g < A + 4 → B.heap[g]? = W.heap[g]? := fun g hg => hst.block g (by omega) (fun h => by have := q4 g h; omega)
  refine ⟨by unfold RowI; rw [kp _ (by omega)]; exact q1, by rw [kp _ (by omega)]; exact q2, by rw [kp _ (by omega)]; exact q3, ⟨K, n1, n2, n3.same (kp _ (by omega)), ?_, ?_⟩, ?_, ?_, by have := hst.size; omega⟩
  · intro j hj
    refine (n4 j hj).same (fun b hb => ?_)
    obtain ⟨-, cur, hc⟩ := (n4 j hj).block hb
    exact hst.block b (Array.getElem?_eq_some_iff.1 hc).1 (n5 j hj b hb)
  · intro j hj b hb h
    obtain ⟨-, cur, hc⟩ := (n4 j hj).block hb
    have := (Array.getElem?_eq_some_iff.1 hc).1
    rcases h with h | h
    · exact n5 j hj b hb h
    · omega
  · rintro g (h | h)
    · have := q4 g h; have := hst.size; omega
    · omega
  · exact ⟨hst.os.trans q5.os, hst.tape.trans q5.tape, hst.output.trans q5.output, by have := hst.size; have := q5.size; omega, fun g hg => (kp g (by omega)).trans (q5.block g hg)⟩
theorem CnI.put {L : List Nd} {A : Nat} {w2 : World} {pre : List Nat} {T : Nat → Prop} {W : World} {r : Nat} {o' : Obj} (h : CnI L A w2 pre T W) (h1 : A + 5 ≤ r) (h2 : r < A + 7) : CnI L A w2 pre T (W.putObj r o') := by
  obtain ⟨q1, q2, q3, ⟨K, n1, n2, n3, n4, n5⟩, q4, q5, q6⟩ := h
  have kp : ∀ g, g ≠ r → (W.putObj r o').heap[g]? = W.heap[g]? := fun g hg => World.putObj_heap_other hg
  refine ⟨by unfold RowI; rw [kp _ (by omega)]; exact q1, by rw [kp _ (by omega)]; exact q2, by rw [kp _ (by omega)]; exact q3, ⟨K, n1, n2, n3.same (kp _ (by omega)), fun j hj => (n4 j hj).same (fun b hb => kp b (by have := ((n4 j hj).block hb).1; omega)), n5⟩, fun g hg => by simpa using q4 g hg, ?_, by simpa using q6⟩
  exact ⟨q5.os, q5.tape, q5.output, by simpa using q5.size, fun g hg => (kp g (by omega)).trans (q5.block g hg)⟩
end Go.Proofs.YtinjikoocegooaaGreatDoor
set_option linter.unusedVariables false
set_option linter.unusedSimpArgs false
namespace Go.Proofs.YtinjikoocegooaaGreatDoor
open Go.RowKit Go.Shelf
attribute [local go_sem] Oper.semAt_some
attribute [local go_sem] run_store_float
/-- append(l, node) where there is room, as one step of a region inside a fence. -/
theorem stepIn_appN {F : Fence} {m : Nat} {w : World} {ops : Array Oper} {o : Oper} {a : Act} {K : Act → World → Prop} {Q : Exit → Act → World → Prop} {E : Prop} (hgd : o.guard = none) (s x : Operand)
    (ho : o.op = .call { callee := .builtin .append, args := #[s, x], argTypes := #[46, 46] }) (g k n : Nat) (K0 : List (Nd × Option Addr × Nat)) (y : Nd × Option Addr × Nat) (hr : RowK w g n K0) (hk : K0.length = k) (hroom : k + 1 ≤ n)
    (hs : a.eval s = .slice (some ⟨g, 0, none⟩) k n) (ad : Addr) (c : Nat) (hx : a.eval x = .slice (some ad) 1 c) (hnews : ∀ j u, (UN [y])[j]? = some u → w.cell? (ad.add j) = some u)
    (hK : ∀ cur' : Array Value, cur'.size = n * 8 → cur'.toList.take ((k + 1) * 8) = UN (K0 ++ [y]) → K (a.put o.dst (.slice (some ⟨g, 0, none⟩) (k + 1) n)) (w.setRow g cur')) :
    if Region.wanted o (yielded ops a.tmps) = true then Oper.wpIn F m Tryz.prog o a w K Q else E := by
  have hw : Region.wanted o (yielded ops a.tmps) = true := by simp [Region.wanted, hgd]
  rw [if_pos hw]
  obtain ⟨cur, h1, h2, h3⟩ := hr
  obtain ⟨i0, hi, hz0, hz1, hz2⟩ := info_parts i40
  have hl : (UN [y]).length = 1 * 8 := by rw [UN_length]; rfl
  have e := run_append_room (P := Tryz.prog) w 46 o.type 81 i0 Tryz.underlying46 hi g k n cur h1 ad 1 c (UN [y]) (by rw [hz1]; exact hl) hnews (UN_one _) hroom (by rw [hz1, UN_length, h2]; simp; omega)
  rw [hz1, hl] at e
  unfold Oper.wpIn
  refine ⟨?_, ?_⟩
  · simp [Oper.about, ho, resolve, Target.leads, Sem.run_pure]
  · rw [Oper.semAt_plain F _ _ (by rw [ho]; intro c hc'; cases hc')]
    simp only [execOp, ho, resolve, invoke, builtin, Sem.run_bind, Sem.run_pure, Result.andThen_ok, List.map_toArray, List.map_cons, List.map_nil, hs, hx, e]
    have l1 : (cur.toList.take (k * 8)).length = k * 8 := by simp; omega
    refine hK _ ?_ ?_
    · simp [hl, UN_length]
      omega
    · simp only [List.append_assoc]
      rw [UN_append, ← hk] at *
      rw [← hk] at l1
      rw [h3]
      rw [List.take_append, UN_length]
      have e1 : List.take ((K0.length + 1) * 8) (UN K0) = UN K0 := List.take_of_length_le (by rw [UN_length]; omega)
      rw [e1, show (K0.length + 1) * 8 - K0.length * 8 = 8 by omega, List.take_append, show List.take 8 (UN [y]) = UN [y] from List.take_of_length_le (by rw [hl]; decide)]
      simp [hl]
theorem fl_set {l : Array Bool} {i j : Nat} (hs : i < l.size) : (l.setIfInBounds i true).getD j false = (if j = i then true else l.getD j false) := by
  by_cases e : j = i
  · subst e; rw [if_pos rfl]; exact set_same hs
  · rw [if_neg e, getD_set_ne false (Ne.symm e)]
/-- What the operations of Canon's appending yield. -/
def cnV (h A b o x k n cap : Nat) (N : Nd) (ca : Option Addr) (cp : Nat) : Nat → Value
  | 0 => .slice (some ⟨A + 2, 0, none⟩) k n
  | 1 => .pointer (some ⟨h, 1, none⟩)
  | 2 => .slice (some ⟨b, o, none⟩) n cap
  | 3 => .int .i64 (x : Nat)
  | 4 => .pointer (some ⟨b, o + x * 8, none⟩)
  | 5 => N.v ca cp
  | _ => undef
def cnP (w5 : World) (N : Nd) (va : Option Addr) (cc : Nat) (w6 : World) : Prop := OwnZ 3 w5.heap.size w6 (.slice va N.cs.length cc) N.cs ∧ N.cs.length ≤ cc ∧ Keep w5 w6
def cnB (N : Nd) (va : Option Addr) (cc : Nat) : Obj := .cells #[Value.int IntKind.u8 N.kd, Value.int IntKind.i64 N.vl, Value.int IntKind.i64 N.ft, Value.float FloatKind.f64 N.th, Value.slice va N.cs.length cc, Value.int IntKind.u8 N.ms, Value.int IntKind.i64 N.lf, Value.int IntKind.i64 N.rt] 81
def cnC (n : Nat) (K : List (Nd × Option Addr × Nat)) (N : Nd) (va : Option Addr) (cc : Nat) (cur : Array Value) : Prop := cur.size = n * 8 ∧ cur.toList.take ((K.length + 1) * 8) = UN (K ++ [(N, va, cc)])
/-- How far it has come. -/
def cnS (w5 : World) (A n : Nat) (K : List (Nd × Option Addr × Nat)) (N : Nd) (x : Nat → Value) (l : Array Bool) (w : World) : Prop :=
  ((∀ j, 6 ≤ j → l.getD j false = false) ∧ w = w5) ∨
  ((∀ j, 1 ≤ j → j ≤ 6 → l.getD j false = true) ∧ (∀ j, 7 ≤ j → l.getD j false = false) ∧ ∃ va cc, cnP w5 N va cc w ∧ x 6 = N.v va cc) ∨
  ((∀ j, 1 ≤ j → j ≤ 7 → l.getD j false = true) ∧ (∀ j, 8 ≤ j → l.getD j false = false) ∧ ∃ va cc w6, cnP w5 N va cc w6 ∧ w = w6.alloc (cnB N va cc) ∧ x 7 = .slice (some ⟨w6.heap.size, 0, none⟩) 1 1) ∨
  ((∀ j, j ≤ 8 → l.getD j false = true) ∧ (∀ j, 9 ≤ j → l.getD j false = false) ∧ ∃ va cc w6 cur, cnP w5 N va cc w6 ∧ cnC n K N va cc cur ∧ w = (w6.alloc (cnB N va cc)).setRow (A + 2) cur ∧ x 8 = .slice (some ⟨A + 2, 0, none⟩) (K.length + 1) n) ∨
  ((∀ j, j ≤ 9 → l.getD j false = true) ∧ ∃ va cc w6 cur, cnP w5 N va cc w6 ∧ cnC n K N va cc cur ∧ w = ((w6.alloc (cnB N va cc)).setRow (A + 2) cur).setCell ⟨A + 3, 0, none⟩ (.slice (some ⟨A + 2, 0, none⟩) (K.length + 1) n))
def cnL (l : Array Bool) : Prop := (l.getD 5 false = true → l.getD 4 false = true) ∧ (l.getD 4 false = true → l.getD 2 false = true ∧ l.getD 3 false = true) ∧ (l.getD 2 false = true → l.getD 1 false = true)
def cnI (V : Nat → Value) (w5 : World) (A n : Nat) (K : List (Nd × Option Addr × Nat)) (N : Nd) (FR : (Nat → Value) → Act) (l : Array Bool) (Ac : Act) (w : World) : Prop :=
  l.size = 10 ∧ ∃ x : Nat → Value, Ac = FR x ∧ (∀ j, j ≤ 5 → l.getD j false = true → x j = V j) ∧ cnL l ∧ cnS w5 A n K N x l w
theorem cnL.set {l : Array Bool} {i : Nat} (h : cnL l) (hs : i < l.size) (hi : (i = 5 → l.getD 4 false = true) ∧ (i = 4 → l.getD 2 false = true ∧ l.getD 3 false = true) ∧ (i = 2 → l.getD 1 false = true)) : cnL (l.setIfInBounds i true) := by
  have up : ∀ j, l.getD j false = true → (l.setIfInBounds i true).getD j false = true := fun j h => by rw [fl_set hs]; split; rfl; exact h
  have dn : ∀ j, (l.setIfInBounds i true).getD j false = true → j = i ∨ l.getD j false = true := fun j h => by rw [fl_set hs] at h; split at h; (left; assumption); exact .inr h
  refine ⟨fun h5 => ?_, fun h4 => ?_, fun h2 => ?_⟩
  · rcases dn 5 h5 with e | e
    · exact up 4 (hi.1 e.symm)
    · exact up 4 (h.1 e)
  · rcases dn 4 h4 with e | e
    · exact ⟨up 2 (hi.2.1 e.symm).1, up 3 (hi.2.1 e.symm).2⟩
    · exact ⟨up 2 (h.2.1 e).1, up 3 (h.2.1 e).2⟩
  · rcases dn 2 h2 with e | e
    · exact up 1 (hi.2.2 e.symm)
    · exact up 1 (h.2.2 e)
/-- Up to the call nothing but values is yielded. -/
theorem cnI.pure {V : Nat → Value} {w5 : World} {A n : Nat} {K : List (Nd × Option Addr × Nat)} {N : Nd} {FR : (Nat → Value) → Act} {l : Array Bool} {x : Nat → Value} {A' : Act} {w : World} {i : Nat} (hs : l.size = 10) (hx : ∀ j, j ≤ 5 → l.getD j false = true → x j = V j) (hL : cnL l) (hS : cnS w5 A n K N x l w) (hi : i ≤ 5) (hii : l.getD i false = false)
    (hd : (i = 5 → l.getD 4 false = true) ∧ (i = 4 → l.getD 2 false = true ∧ l.getD 3 false = true) ∧ (i = 2 → l.getD 1 false = true)) (hA : A' = FR (updV x i (V i))) : cnI V w5 A n K N FR (l.setIfInBounds i true) A' w := by
  refine ⟨by simpa using hs, _, hA, ?_, hL.set (by omega) hd, ?_⟩
  · intro j hj h
    rw [fl_set (by omega)] at h
    by_cases e : j = i
    · subst e; simp [updV]
    · rw [if_neg e] at h
      simp only [updV, if_neg e]; exact hx j hj h
  · have up : ∀ j, l.getD j false = true → (l.setIfInBounds i true).getD j false = true := fun j h => by rw [fl_set (by omega)]; split; rfl; exact h
    have dn : ∀ j, 6 ≤ j → l.getD j false = false → (l.setIfInBounds i true).getD j false = false := fun j h1 h => by rw [fl_set (by omega), if_neg (by omega)]; exact h
    have xe : ∀ j, 6 ≤ j → updV x i (V i) j = x j := fun j h => by simp only [updV]; rw [if_neg (by omega)]
    rcases hS with ⟨h1, h2⟩ | ⟨h1, h2, va, cc, h3, h4⟩ | ⟨h1, h2, va, cc, w6, h3, h4, h5⟩ | ⟨h1, h2, h3⟩ | ⟨h1, h2⟩
    · exact .inl ⟨fun j h => dn j h (h1 j h), h2⟩
    · exact .inr (.inl ⟨fun j a b => up j (h1 j a b), fun j h => dn j (by omega) (h2 j h), va, cc, h3, by rw [xe 6 (by omega)]; exact h4⟩)
    · exact .inr (.inr (.inl ⟨fun j a b => up j (h1 j a b), fun j h => dn j (by omega) (h2 j h), va, cc, w6, h3, h4, by rw [xe 7 (by omega)]; exact h5⟩))
    · have := h1 i (by omega); rw [this] at hii; cases hii
    · have := h1 i (by omega); rw [this] at hii; cases hii
/-- Its first six values stay. -/
theorem cn_vals {V : Nat → Value} {l : Array Bool} {x : Nat → Value} {i : Nat} {v : Value} (hs : i < l.size) (hi : 6 ≤ i) (hx : ∀ j, j ≤ 5 → l.getD j false = true → x j = V j) : ∀ j, j ≤ 5 → (l.setIfInBounds i true).getD j false = true → updV x i v j = V j := by
  intro j hj h
  rw [fl_set hs, if_neg (by omega)] at h
  simp only [updV]; rw [if_neg (by omega)]; exact hx j hj h
theorem cnL.later {l : Array Bool} {i : Nat} (h : cnL l) (hs : i < l.size) (hi : 6 ≤ i) : cnL (l.setIfInBounds i true) := h.set hs ⟨fun e => by omega, fun e => by omega, fun e => by omega⟩
theorem cnI.call {V : Nat → Value} {w5 : World} {A n : Nat} {K : List (Nd × Option Addr × Nat)} {N : Nd} {FR : (Nat → Value) → Act} {l : Array Bool} {x : Nat → Value} {A' : Act} {w6 : World} {va : Option Addr} {cc : Nat} (hs : l.size = 10) (hx : ∀ j, j ≤ 5 → l.getD j false = true → x j = V j) (hL : cnL l) (h1 : ∀ j, 6 ≤ j → l.getD j false = false) (h5 : l.getD 5 false = true)
    (hP : cnP w5 N va cc w6) (hA : A' = FR (updV x 6 (N.v va cc))) : cnI V w5 A n K N FR (l.setIfInBounds 6 true) A' w6 := by
  refine ⟨by simpa using hs, _, hA, cn_vals (by omega) (by omega) hx, hL.later (by omega) (by omega), .inr (.inl ⟨fun j a b => ?_, fun j h => ?_, va, cc, hP, by simp [updV]⟩)⟩
  · rw [fl_set (by omega)]
    split
    · rfl
    · have h4 := hL.1 h5
      obtain ⟨h2, h3⟩ := hL.2.1 h4
      have h1' := hL.2.2 h2
      match j, a, b with
      | 1, _, _ => exact h1'
      | 2, _, _ => exact h2
      | 3, _, _ => exact h3
      | 4, _, _ => exact h4
      | 5, _, _ => exact h5
      | 6, _, _ => contradiction
  · rw [fl_set (by omega), if_neg (by omega)]; exact h1 j (by omega)
theorem cnI.made {V : Nat → Value} {w5 : World} {A n : Nat} {K : List (Nd × Option Addr × Nat)} {N : Nd} {FR : (Nat → Value) → Act} {l : Array Bool} {x : Nat → Value} {A' : Act} {w6 : World} {va : Option Addr} {cc : Nat} (hs : l.size = 10) (hx : ∀ j, j ≤ 5 → l.getD j false = true → x j = V j) (hL : cnL l) (h1 : ∀ j, 1 ≤ j → j ≤ 6 → l.getD j false = true) (h2 : ∀ j, 7 ≤ j → l.getD j false = false)
    (hP : cnP w5 N va cc w6) (hA : A' = FR (updV x 7 (.slice (some ⟨w6.heap.size, 0, none⟩) 1 1))) : cnI V w5 A n K N FR (l.setIfInBounds 7 true) A' (w6.alloc (cnB N va cc)) := by
  refine ⟨by simpa using hs, _, hA, cn_vals (by omega) (by omega) hx, hL.later (by omega) (by omega), .inr (.inr (.inl ⟨fun j a b => ?_, fun j h => ?_, va, cc, w6, hP, rfl, by simp [updV]⟩))⟩
  · rw [fl_set (by omega)]
    split
    · rfl
    · exact h1 j a (by omega)
  · rw [fl_set (by omega), if_neg (by omega)]; exact h2 j (by omega)
theorem cnI.appd {V : Nat → Value} {w5 : World} {A n : Nat} {K : List (Nd × Option Addr × Nat)} {N : Nd} {FR : (Nat → Value) → Act} {l : Array Bool} {x : Nat → Value} {A' : Act} {w6 : World} {va : Option Addr} {cc : Nat} {cur : Array Value} (hs : l.size = 10) (hx : ∀ j, j ≤ 5 → l.getD j false = true → x j = V j) (hL : cnL l) (h0 : l.getD 0 false = true) (h1 : ∀ j, 1 ≤ j → j ≤ 7 → l.getD j false = true) (h2 : ∀ j, 8 ≤ j → l.getD j false = false)
    (hP : cnP w5 N va cc w6) (hc : cnC n K N va cc cur) (hA : A' = FR (updV x 8 (.slice (some ⟨A + 2, 0, none⟩) (K.length + 1) n))) : cnI V w5 A n K N FR (l.setIfInBounds 8 true) A' ((w6.alloc (cnB N va cc)).setRow (A + 2) cur) := by
  refine ⟨by simpa using hs, _, hA, cn_vals (by omega) (by omega) hx, hL.later (by omega) (by omega), .inr (.inr (.inr (.inl ⟨fun j b => ?_, fun j h => ?_, va, cc, w6, cur, hP, hc, rfl, by simp [updV]⟩)))⟩
  · rw [fl_set (by omega)]
    split
    · rfl
    · by_cases e : j = 0
      · subst e; exact h0
      · exact h1 j (by omega) (by omega)
  · rw [fl_set (by omega), if_neg (by omega)]; exact h2 j (by omega)
theorem cnI.last {V : Nat → Value} {w5 : World} {A n : Nat} {K : List (Nd × Option Addr × Nat)} {N : Nd} {FR : (Nat → Value) → Act} {l : Array Bool} {x : Nat → Value} {A' : Act} {w6 : World} {va : Option Addr} {cc : Nat} {cur : Array Value} (hs : l.size = 10) (hx : ∀ j, j ≤ 5 → l.getD j false = true → x j = V j) (hL : cnL l) (h1 : ∀ j, j ≤ 8 → l.getD j false = true)
    (hP : cnP w5 N va cc w6) (hc : cnC n K N va cc cur) (hA : A' = FR x) : cnI V w5 A n K N FR (l.setIfInBounds 9 true) A' (((w6.alloc (cnB N va cc)).setRow (A + 2) cur).setCell ⟨A + 3, 0, none⟩ (.slice (some ⟨A + 2, 0, none⟩) (K.length + 1) n)) := by
  refine ⟨by simpa using hs, x, hA, fun j hj h => ?_, hL.later (by omega) (by omega), .inr (.inr (.inr (.inr ⟨fun j b => ?_, va, cc, w6, cur, hP, hc, rfl⟩)))⟩
  · rw [fl_set (by omega), if_neg (by omega)] at h; exact hx j hj h
  · rw [fl_set (by omega)]
    split
    · rfl
    · exact h1 j (by omega)
theorem cnS.keep {w5 : World} {A n : Nat} {K : List (Nd × Option Addr × Nat)} {N : Nd} {x : Nat → Value} {l : Array Bool} {w : World} (hS : cnS w5 A n K N x l w) (h8 : l.getD 8 false = false) : Keep w5 w := by
  rcases hS with ⟨h1, rfl⟩ | ⟨h1, h2, va, cc, h3, h4⟩ | ⟨h1, h2, va, cc, w6, h3, rfl, h5⟩ | ⟨h1, h2, h3⟩ | ⟨h1, h2⟩
  · exact Keep.refl _
  · exact h3.2.2
  · exact h3.2.2.alloc _
  · have := h1 8 (by omega); rw [this] at h8; cases h8
  · have := h1 8 (by omega); rw [this] at h8; cases h8
theorem cn8 {w5 : World} {A n : Nat} {K : List (Nd × Option Addr × Nat)} {N : Nd} {x : Nat → Value} {l : Array Bool} {w : World} (hS : cnS w5 A n K N x l w) (i : Nat) (hi : i ≤ 5) (hii : l.getD i false = false) : l.getD 8 false = false := by
  rcases hS with ⟨h1, -⟩ | ⟨h1, h2, -⟩ | ⟨h1, h2, -⟩ | ⟨h1, h2, h3⟩ | ⟨h1, h2⟩
  · exact h1 8 (by omega)
  · exact h2 8 (by omega)
  · exact h2 8 (by omega)
  · have := h1 i (by omega); rw [this] at hii; cases hii
  · have := h1 i (by omega); rw [this] at hii; cases hii
end Go.Proofs.YtinjikoocegooaaGreatDoor
