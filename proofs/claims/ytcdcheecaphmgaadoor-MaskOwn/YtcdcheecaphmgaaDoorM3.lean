import Derived.Test.YtcdcheecaphmgaaDoorM2
import Derived.Test.YtcdcheecaphmgaaDoorYU4
import Derived.Test.YtcdcheecaphmgaaDoorYX4
set_option linter.unusedVariables false
set_option linter.unusedSimpArgs false
namespace Go.Proofs.YtcdcheecaphmgaaDoor
open Go.RowKit Go.Shelf
theorem run_store_fn {P : Program} {w : World} {a : Addr} {m : Mode} (f : Fn) (x y : Array Value) : (store a (.func f x y) m).run P w = stored P w a (.func f x y) m := run_store P w a _ m rfl
theorem boxes3g (w : World) (u v x : Array Value) (t1 t2 t3 : Nat) : ∃ w4, ((w.alloc (Obj.cells u t1)).alloc (Obj.cells v t2)).alloc (Obj.cells x t3) = w4 ∧ Keep w w4 ∧ w4.heap.size = w.heap.size + 3 ∧
    w4.heap[w.heap.size]? = some (Obj.cells u t1 (0, 0)) ∧ w4.heap[w.heap.size + 1]? = some (Obj.cells v t2 (0, 0)) ∧ w4.heap[w.heap.size + 1 + 1]? = some (Obj.cells x t3 (0, 0)) := by
  refine ⟨_, rfl, (((Keep.refl w).alloc _).alloc _).alloc _, by simp, ?_, ?_, ?_⟩
  · exact (Below.heap_alloc _ _ _ (by simp; omega)).trans ((Below.heap_alloc _ _ _ (by simp)).trans (heap_alloc_new w _))
  · have := heap_alloc_new (w.alloc (Obj.cells u t1)) (Obj.cells v t2)
    rw [World.size_alloc] at this
    exact (Below.heap_alloc _ _ _ (by simp)).trans this
  · have := heap_alloc_new ((w.alloc (Obj.cells u t1)).alloc (Obj.cells v t2)) (Obj.cells x t3)
    rw [World.size_alloc, World.size_alloc] at this
    exact this
/-- What keeps a tree from being marked: it is none, or has too many leaves. -/
def lvE (L : List Nd) : Int := if shE L ≠ 0 then shE L else if 4096 < (lvs L).length then 3 else 0
set_option maxRecDepth 100000 in
theorem leavesOf_any (a : Option Addr) (cap : Nat) (out : Int) (L : List Nd) (hLn : L.length ≤ 2199023255552) (w : World) (hrd : RdN w a L) :
    Calls Tryd.prog 34 #[.agg #[.int .i64 out, .slice a L.length cap]] w fun e w' => ∃ v, e = .returned (.tuple #[v, .int .i64 (lvE L)]) ∧ (lvE L = 0 → OwnI w' v (lvs L) ∧ ∀ b, v.ownBlock = some b → w.heap.size ≤ b) ∧ (lvE L ≠ 0 → v = .slice none 0 0) ∧ Keep w w' := by
  have k0 : Keep w (w.alloc (Obj.cells #[Value.int IntKind.i64 out, Value.slice a L.length cap] 24)) := (Keep.refl w).alloc _
  have hC := Leaves_any a cap out L hLn _ (hrd.keep k0)
  have hll : (lvs L).length ≤ 2199023255552 := by
    unfold lvs
    split
    · rename_i h
      exact Nat.le_trans (List.length_filter_le _ _) (Nat.le_trans (ord_len (shE_rgt h).wi) hLn)
    · simp
  go_enter Tryd.func34, Tryd.ntmps34
  go_wp2_with fail
  refine hC.mono ?_
  rintro e w1 ⟨v, rfl, h1, h2, k1⟩
  have k01 := k0.trans k1
  obtain ⟨av, cv, rfl, hcv⟩ := h1.shape
  have h2' : ∀ b, (Value.slice av (lvs L).length cv).ownBlock = some b → w.heap.size ≤ b := fun b hb => Nat.le_trans k0.le (h2 b hb)
  clear hC h2
  by_cases hE : shE L = 0
  · have c1 : (shE L != 0) = false := by rw [bne_eq_false_iff_eq]; exact hE
    by_cases hM : 4096 < (lvs L).length
    · have c2 : decide (((lvs L).length : Int) > 4096) = true := decide_eq_true (by omega)
      have c3 : decide (4096 < ((lvs L).length : Int)) = true := decide_eq_true (by omega)
      have HE : Hid (lvE L = 3) := by show _ = _; unfold lvE; rw [if_neg (by simpa using hE), if_pos hM]
      replace hE : Hid _ := hE
      go_wp2_with fail
      refine bodyPost_ret (results_tmp2 rfl _ _ _) rfl ?_
      exact ⟨.slice none 0 0, by rw [HE.out]; rfl, fun h => (by rw [HE.out] at h; cases h), fun _ => rfl, k01⟩
    · have c2 : decide (((lvs L).length : Int) > 4096) = false := decide_eq_false (by omega)
      have c3 : decide (4096 < ((lvs L).length : Int)) = false := decide_eq_false (by omega)
      have HE : Hid (lvE L = 0) := by show _ = _; unfold lvE; rw [if_neg (by simpa using hE), if_neg hM]
      replace hE : Hid _ := hE
      go_wp2_with fail
      refine bodyPost_ret (results_tmp2 rfl _ _ _) rfl ?_
      exact ⟨.slice av (lvs L).length cv, by rw [HE.out]; rfl, fun _ => ⟨h1, h2'⟩, fun h => absurd HE.out h, k01⟩
  · have c1 : (shE L != 0) = true := by rw [bne_iff_ne]; exact hE
    have HE : Hid (lvE L = shE L) := by show _ = _; unfold lvE; rw [if_pos hE]
    replace hE : Hid _ := hE
    go_wp2_with fail
    refine bodyPost_ret (results_tmp2 rfl _ _ _) rfl ?_
    exact ⟨.slice none 0 0, by rw [HE.out]; rfl, fun h => absurd (HE.out.symm.trans h) hE.out, fun _ => rfl, k01⟩
/-- A tree that can be marked, written out. -/
theorem lvE_ok {L : List Nd} (h : lvE L = 0) : shE L = 0 ∧ Rgt L ∧ Tr (shp L) L.length ∧ ∃ b, Bt (shp L) b 0 ∧ lvs L = b.lv ∧ b.nl ≤ 4096 := by
  unfold lvE at h
  by_cases hE : shE L = 0
  · rw [if_neg (by simpa using hE)] at h
    by_cases hM : 4096 < (lvs L).length
    · rw [if_pos hM] at h; cases h
    · have hT := shE_tr hE
      obtain ⟨b, hb⟩ := bt_root hT
      have e : lvs L = b.lv := by
        unfold lvs
        rw [if_pos hE, ord_bt hT hb, ← hb.pre_lv]
        rfl
      refine ⟨hE, shE_rgt hE, hT, b, hb, e, ?_⟩
      rw [← b.lv_len, ← e]
      omega
  · rw [if_pos hE] at h; exact absurd h hE
attribute [local go_sem] run_store_fn
set_option maxRecDepth 100000 in
set_option maxHeartbeats 1000000 in
theorem marksOf_any (a : Option Addr) (cap : Nat) (out : Int) (L : List Nd) (hLn : L.length ≤ 2199023255552) (hR : Rgt L) {b : BT} (hb : Bt (shp L) b 0) (hn : b.nl ≤ 4096) (w : World) (hrd : RdN w a L) :
    Calls Tryd.prog 35 #[.agg #[.int .i64 out, .slice a L.length cap]] w fun e w' => ∃ v, e = .returned v ∧ OwnM w.heap.size w' v (b.mks 0) ∧ Keep w w' := by
  obtain ⟨w1, hw1, k1, s1, r0, r1, r2⟩ := boxes3g w #[.int .i64 out, .slice a L.length cap] #[.slice none 0 0] #[.func (.func 68) #[] #[.pointer (some ⟨w.heap.size, 0, none⟩), .pointer (some ⟨w.heap.size + 1, 0, none⟩), .pointer (some ⟨w.heap.size + 1 + 1, 0, none⟩)]] 24 26 89
  have hM : MS w out a L.length cap [] (.slice none 0 0) w1 := ⟨k1, r0, r1, r2, OwnM.nil _ _, by omega⟩
  have hC := below_any w out a cap L hLn hR hrd hb hR.1 _ _ w1 0 hM (by simp only [List.length_nil]; omega) (by omega)
  replace hw1 : Hid _ := hw1
  clear r0 r1 r2 hM s1
  go_enter Tryd.func35, Tryd.ntmps35
  go_wp2_with fail
  rw [hw1.out]
  refine hC.mono ?_
  rintro e w2 ⟨v, rfl, hM⟩
  rw [List.nil_append] at hM
  have c2 := cell_of_row _ _ 0 _ 26 (0, 0) hM.b2
  simp only [List.getElem?_toArray, List.getElem?_cons_zero, List.getElem?_cons_succ] at c2
  obtain ⟨va, vc, rfl, -, -⟩ := hM.own.shape
  go_wp2_with fail
  go_ret
  exact ⟨_, rfl, own_mono hM.own (by omega), hM.kp⟩
set_option maxRecDepth 100000 in
theorem Marks_any (a : Option Addr) (cap : Nat) (out : Int) (L : List Nd) (hLn : L.length ≤ 2199023255552) (w : World) (hrd : RdN w a L) :
    Calls Tryd.prog 10 #[.agg #[.int .i64 out, .slice a L.length cap]] w fun e w' => ∃ v l, e = .returned (.tuple #[v, .int .i64 (lvE L)]) ∧ OwnM w.heap.size w' v l ∧ (lvE L ≠ 0 → l = []) ∧ (∀ b, lvE L = 0 → Bt (shp L) b 0 → l = b.mks 0) ∧ Keep w w' := by
  have k0 : Keep w (w.alloc (Obj.cells #[Value.int IntKind.i64 out, Value.slice a L.length cap] 24)) := (Keep.refl w).alloc _
  have tb : (w.alloc (Obj.cells #[Value.int IntKind.i64 out, Value.slice a L.length cap] 24)).heap[w.heap.size]? = some (Obj.cells #[Value.int IntKind.i64 out, Value.slice a L.length cap] 24 (0, 0)) := heap_alloc_new w _
  have hC := leavesOf_any a cap out L hLn _ (hrd.keep k0)
  go_enter Tryd.func10, Tryd.ntmps10
  go_wp2_with fail
  generalize w.alloc (Obj.cells #[Value.int IntKind.i64 out, Value.slice a L.length cap] 24) = w1 at *
  refine hC.mono ?_
  rintro e w2 ⟨v, rfl, h1, h2, k2⟩
  have k02 := k0.trans k2
  by_cases hE : lvE L = 0
  · have c1 : (lvE L != 0) = false := by rw [bne_eq_false_iff_eq]; exact hE
    obtain ⟨-, hR, -, b, hb, -, hn⟩ := lvE_ok hE
    have t2 := (k2.block _ (Array.getElem?_eq_some_iff.1 tb).1).trans tb
    have x0 := cell_of_row _ _ 0 _ 24 (0, 0) t2
    have x1 := cell_of_row _ _ 1 _ 24 (0, 0) t2
    simp only [List.getElem?_toArray, List.getElem?_cons_zero, List.getElem?_cons_succ] at x0 x1
    have hM := marksOf_any a cap out L hLn hR hb hn w2 (hrd.keep k02)
    obtain ⟨h1, -⟩ := h1 hE
    obtain ⟨av, cv, rfl, -⟩ := h1.shape
    replace hE : Hid _ := hE
    clear hC h1 h2 t2
    go_wp2_with fail
    refine hM.mono ?_
    rintro e w3 ⟨v3, rfl, hO, k3⟩
    obtain ⟨a3, c3, rfl, -, -⟩ := hO.shape
    go_wp2_with fail
    refine bodyPost_ret (results_tmp2 rfl _ _ _) rfl ?_
    exact ⟨.slice a3 (b.mks 0).length c3, b.mks 0, by rw [hE.out]; rfl, own_mono hO k02.le, fun h => absurd hE.out h, fun b2 _ h2 => by rw [hb.one h2], k02.trans k3⟩
  · have c1 : (lvE L != 0) = true := by rw [bne_iff_ne]; exact hE
    have h2 := h2 hE
    subst h2
    replace hE : Hid _ := hE
    clear hC h1
    go_wp2_with fail
    refine bodyPost_ret (results_tmp2 rfl _ _ _) rfl ?_
    exact ⟨.slice none 0 0, [], rfl, OwnM.nil _ _, fun _ => rfl, fun b h _ => absurd h hE.out, k02⟩
end Go.Proofs.YtcdcheecaphmgaaDoor
