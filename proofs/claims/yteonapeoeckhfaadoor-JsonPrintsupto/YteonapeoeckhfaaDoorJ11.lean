import Derived.Test.YteonapeoeckhfaaDoorJ10
set_option linter.unusedVariables false
set_option linter.unusedSimpArgs false
namespace Go.Proofs.YteonapeoeckhfaaDoor
open Go.RowKit Go.Shelf
/-- What is wrong with a value: 0 nothing. -/
def chk (j : J) : Nat := if dp j ≤ 256 then (if allJ plain j = true then (if allJ noTw j = true then 0 else 102) else 100) else 101
/-- A value that lies in a box. -/
def Bv (w : World) (g : Nat) (v : Value) : Prop := ∃ a b c d, v = .agg #[a, b, c, d] ∧ w.heap[g]? = some (.cells #[a, b, c, d] 27 (0, 0))
theorem Bv.keep {w w' : World} {g : Nat} {v : Value} (h : Bv w g v) (k : Keep w w') : Bv w' g v := by
  obtain ⟨a, b, c, d, e, hb⟩ := h
  exact ⟨a, b, c, d, e, k.at hb⟩
theorem Bv.cells {w : World} {g : Nat} {a b c d : Value} (h : Bv w g (.agg #[a, b, c, d])) : w.cell? ⟨g, 0, none⟩ = some a ∧ w.cell? ⟨g, 1, none⟩ = some b ∧ w.cell? ⟨g, 2, none⟩ = some c ∧ w.cell? ⟨g, 3, none⟩ = some d := by
  obtain ⟨a', b', c', d', e, hb⟩ := h
  simp only [Value.agg.injEq, Array.mk.injEq, List.cons.injEq, and_true] at e
  obtain ⟨rfl, rfl, rfl, rfl⟩ := e
  have c0 := cell_of_row w g 0 _ 27 (0, 0) hb
  have c1 := cell_of_row w g 1 _ 27 (0, 0) hb
  have c2 := cell_of_row w g 2 _ 27 (0, 0) hb
  have c3 := cell_of_row w g 3 _ 27 (0, 0) hb
  exact ⟨c0, c1, c2, c3⟩
theorem RdV.agg {w : World} {v : Value} {j : J} (h : RdV w v j) : ∃ (k : Nat) (t : ByteArray) (an : Option Addr) (n cn : Nat) (ai : Option Addr) (m ci : Nat), v = .agg #[.int .u8 (k : Nat), .string t, .slice an n cn, .slice ai m ci] := by
  cases h with
  | mk k t ns is an cn ai ci X hk hn ln li hx hr => exact ⟨k, t, an, ns.length, cn, ai, is.length, ci, rfl⟩
set_option maxRecDepth 100000 in
set_option maxHeartbeats 4000000 in
theorem do32_ok (hI : IxC) (g : Nat) (j : J) (v : Value) (w : World) (hb : Bv w g v) (hv : RdV w v j) (hf : FT j) (hT : UT w) (h1 : dp j ≤ 256) (h2 : allJ plain j = true) (h3 : allJ noTw j = true) :
    DoOk 32 #[.pointer (some ⟨g, 0, none⟩)] w Keep := by
  intro wx kx
  obtain ⟨k, t, an, n, cn, ai, m, ci, rfl⟩ := hv.agg
  have hD := fun wy (ky : Keep wx wy) => checkDepth_in _ j _ 0 wy (Nat.le_refl _) (hv.keep (kx.trans ky)) (by omega)
  have hF := fun wy (ky : Keep wx wy) => checkFields_in hI _ j _ wy (Nat.le_refl _) (hv.keep (kx.trans ky)) hf (hT.keep (kx.trans ky))
  have hN := fun wy (ky : Keep wx wy) => checkNames_in _ j _ wy (Nat.le_refl _) (hv.keep (kx.trans ky)) hf
  rw [if_pos (by omega)] at hD
  rw [if_pos h2] at hF
  rw [if_pos h3] at hN
  have hb1 := hb.keep kx
  obtain ⟨c0, c1, c2, c3⟩ := hb1.cells
  clear h1 h2 h3 hb hv hT hf hI
  go_enter Tryd.func32, Tryd.ntmps32
  go_wp2_with (first | (go_at_call 33; refine (hD _ (Keep.refl _)).mono ?_; clear hD; rintro e w2 ⟨rfl, k2⟩; obtain ⟨d0, d1, d2, d3⟩ := (hb1.keep k2).cells) | (go_at_call 34; refine (hF _ k2).mono ?_; clear hF; rintro e w3 ⟨rfl, k3⟩; have k23 := k2.trans k3; obtain ⟨e0, e1, e2, e3⟩ := (hb1.keep k23).cells) | (go_at_call 35; refine (hN _ k23).mono ?_; clear hN; rintro e w4 ⟨rfl, k4⟩))
  go_end0
  exact ⟨rfl, k23.trans k4⟩
set_option maxRecDepth 100000 in
set_option maxHeartbeats 4000000 in
theorem do32_deep (hI : IxC) (g : Nat) (j : J) (v : Value) (w : World) (hb : Bv w g v) (hv : RdV w v j) (hf : FT j) (hT : UT w) (h1 : ¬ dp j ≤ 256) :
    DoBad 32 #[.pointer (some ⟨g, 0, none⟩)] w 101 0 Keep := by
  intro wx kx
  obtain ⟨k, t, an, n, cn, ai, m, ci, rfl⟩ := hv.agg
  have hD := fun wy (ky : Keep wx wy) => checkDepth_in _ j _ 0 wy (Nat.le_refl _) (hv.keep (kx.trans ky)) (by omega)
  have hF := fun wy (ky : Keep wx wy) => checkFields_in hI _ j _ wy (Nat.le_refl _) (hv.keep (kx.trans ky)) hf (hT.keep (kx.trans ky))
  have hN := fun wy (ky : Keep wx wy) => checkNames_in _ j _ wy (Nat.le_refl _) (hv.keep (kx.trans ky)) hf
  rw [if_neg (by omega)] at hD
  have hb1 := hb.keep kx
  obtain ⟨c0, c1, c2, c3⟩ := hb1.cells
  clear h1 hb hv hT hf hI hF hN
  go_enter Tryd.func32, Tryd.ntmps32
  go_wp2_with (go_at_call 33; refine (hD _ (Keep.refl _)).mono ?_; clear hD; rintro e w2 ⟨rfl, k2⟩)
  exact ⟨rfl, rfl, k2⟩
set_option maxRecDepth 100000 in
set_option maxHeartbeats 4000000 in
theorem do32_fields (hI : IxC) (g : Nat) (j : J) (v : Value) (w : World) (hb : Bv w g v) (hv : RdV w v j) (hf : FT j) (hT : UT w) (h1 : dp j ≤ 256) (h2 : ¬ allJ plain j = true) :
    DoBad 32 #[.pointer (some ⟨g, 0, none⟩)] w 100 0 Keep := by
  intro wx kx
  obtain ⟨k, t, an, n, cn, ai, m, ci, rfl⟩ := hv.agg
  have hD := fun wy (ky : Keep wx wy) => checkDepth_in _ j _ 0 wy (Nat.le_refl _) (hv.keep (kx.trans ky)) (by omega)
  have hF := fun wy (ky : Keep wx wy) => checkFields_in hI _ j _ wy (Nat.le_refl _) (hv.keep (kx.trans ky)) hf (hT.keep (kx.trans ky))
  have hN := fun wy (ky : Keep wx wy) => checkNames_in _ j _ wy (Nat.le_refl _) (hv.keep (kx.trans ky)) hf
  rw [if_pos (by omega)] at hD
  rw [if_neg h2] at hF
  have hb1 := hb.keep kx
  obtain ⟨c0, c1, c2, c3⟩ := hb1.cells
  clear h1 h2 hb hv hT hf hI hN
  go_enter Tryd.func32, Tryd.ntmps32
  go_wp2_with (first | (go_at_call 33; refine (hD _ (Keep.refl _)).mono ?_; clear hD; rintro e w2 ⟨rfl, k2⟩; obtain ⟨d0, d1, d2, d3⟩ := (hb1.keep k2).cells) | (go_at_call 34; refine (hF _ k2).mono ?_; clear hF; rintro e w3 ⟨rfl, k3⟩))
  exact ⟨rfl, rfl, k2.trans k3⟩
set_option maxRecDepth 100000 in
set_option maxHeartbeats 4000000 in
theorem do32_names (hI : IxC) (g : Nat) (j : J) (v : Value) (w : World) (hb : Bv w g v) (hv : RdV w v j) (hf : FT j) (hT : UT w) (h1 : dp j ≤ 256) (h2 : allJ plain j = true) (h3 : ¬ allJ noTw j = true) :
    DoBad 32 #[.pointer (some ⟨g, 0, none⟩)] w 102 0 Keep := by
  intro wx kx
  obtain ⟨k, t, an, n, cn, ai, m, ci, rfl⟩ := hv.agg
  have hD := fun wy (ky : Keep wx wy) => checkDepth_in _ j _ 0 wy (Nat.le_refl _) (hv.keep (kx.trans ky)) (by omega)
  have hF := fun wy (ky : Keep wx wy) => checkFields_in hI _ j _ wy (Nat.le_refl _) (hv.keep (kx.trans ky)) hf (hT.keep (kx.trans ky))
  have hN := fun wy (ky : Keep wx wy) => checkNames_in _ j _ wy (Nat.le_refl _) (hv.keep (kx.trans ky)) hf
  rw [if_pos (by omega)] at hD
  rw [if_pos h2] at hF
  rw [if_neg h3] at hN
  have hb1 := hb.keep kx
  obtain ⟨c0, c1, c2, c3⟩ := hb1.cells
  clear h1 h2 h3 hb hv hT hf hI
  go_enter Tryd.func32, Tryd.ntmps32
  go_wp2_with (first | (go_at_call 33; refine (hD _ (Keep.refl _)).mono ?_; clear hD; rintro e w2 ⟨rfl, k2⟩; obtain ⟨d0, d1, d2, d3⟩ := (hb1.keep k2).cells) | (go_at_call 34; refine (hF _ k2).mono ?_; clear hF; rintro e w3 ⟨rfl, k3⟩; have k23 := k2.trans k3; obtain ⟨e0, e1, e2, e3⟩ := (hb1.keep k23).cells) | (go_at_call 35; refine (hN _ k23).mono ?_; clear hN; rintro e w4 ⟨rfl, k4⟩))
  exact ⟨rfl, rfl, k23.trans k4⟩
theorem callFunc32 (cap : Array Value) (wx : World) : (callFunc 32 cap).run Tryd.prog wx = .ok (.enter 32 cap) wx := by kernel_rfl
/-- What the closure comes to, caught. -/
theorem caught32 (hI : IxC) (g : Nat) (j : J) (v : Value) (w : World) (hb : Bv w g v) (hv : RdV w v j) (hf : FT j) (hT : UT w) :
    Calls Tryd.prog 22 #[.func (.func 32) #[] #[.pointer (some ⟨g, 0, none⟩)]] w fun e w' => e = .returned (.agg #[.int .i64 (chk j : Nat), .int .i64 0]) ∧ Keep w w' := by
  have hz : ∀ (wx w' : World), Keep w wx → w.heap.size < wx.heap.size → wx.heap[w.heap.size]? = some (.cells #[.int .i64 0, .int .i64 0] 50 (0, 0)) → Keep wx w' → w'.heap[w.heap.size]? = wx.heap[w.heap.size]? := fun wx w' _ hlt _ k => k.block _ hlt
  have fin : ∀ (w' : World), (∃ w1 w2, Keep w w1 ∧ Keep w1 w2 ∧ Kb w.heap.size w2 w') → Keep w w' := by
    rintro w' ⟨w1, w2, k1, k2, k3⟩
    exact Kb.keep (k1.trans k2) k3 (Nat.le_refl _)
  unfold chk
  by_cases h1 : dp j ≤ 256
  · rw [if_pos h1]
    by_cases h2 : allJ plain j = true
    · rw [if_pos h2]
      by_cases h3 : allJ noTw j = true
      · rw [if_pos h3]
        refine (caught_ok 32 _ w Keep (callFunc32 _) (do32_ok hI g j v w hb hv hf hT h1 h2 h3) hz).mono ?_
        rintro e w' ⟨rfl, h⟩
        exact ⟨rfl, fin _ h⟩
      · rw [if_neg h3]
        refine (caught_bad 32 _ w 102 0 Keep (callFunc32 _) (do32_names hI g j v w hb hv hf hT h1 h2 h3) hz).mono ?_
        rintro e w' ⟨rfl, h⟩
        exact ⟨rfl, fin _ h⟩
    · rw [if_neg h2]
      refine (caught_bad 32 _ w 100 0 Keep (callFunc32 _) (do32_fields hI g j v w hb hv hf hT h1 h2) hz).mono ?_
      rintro e w' ⟨rfl, h⟩
      exact ⟨rfl, fin _ h⟩
  · rw [if_neg h1]
    refine (caught_bad 32 _ w 101 0 Keep (callFunc32 _) (do32_deep hI g j v w hb hv hf hT h1) hz).mono ?_
    rintro e w' ⟨rfl, h⟩
    exact ⟨rfl, fin _ h⟩
set_option maxRecDepth 100000 in
set_option maxHeartbeats 4000000 in
theorem Check_any (hI : IxC) (j : J) (v : Value) (w : World) (hv : RdV w v j) (hf : FT j) (hT : UT w) :
    Calls Tryd.prog 15 #[v] w fun e w' => e = .returned (.int .i64 (chk j : Nat)) ∧ Keep w w' := by
  have hmf : ∀ (fn : Fn) (first cap : Array Value) (w : World), (Instr.makeFunc fn first cap).run Tryd.prog w = .ok (.func fn first cap) w := fun _ _ _ _ => rfl
  obtain ⟨k, t, an, n, cn, ai, m, ci, rfl⟩ := hv.agg
  have ka := (Keep.refl w).alloc (Obj.cells #[.int .u8 (k : Nat), .string t, .slice an n cn, .slice ai m ci] 27)
  have hb : Bv (w.alloc (Obj.cells #[.int .u8 (k : Nat), .string t, .slice an n cn, .slice ai m ci] 27)) w.heap.size (.agg #[.int .u8 (k : Nat), .string t, .slice an n cn, .slice ai m ci]) := ⟨_, _, _, _, rfl, heap_alloc_new w _⟩
  have hC := caught32 hI w.heap.size j _ _ hb (hv.keep ka) hf (hT.keep ka)
  generalize chk j = C at hC ⊢
  clear hv hT hf hI hb
  go_enter Tryd.func15, Tryd.ntmps15
  go_wp2_with (go_at_call 22; refine hC.mono ?_; clear hC; rintro e w2 ⟨rfl, k2⟩)
  go_ret
  exact ⟨rfl, (ka.trans k2).alloc _⟩
end Go.Proofs.YteonapeoeckhfaaDoor
