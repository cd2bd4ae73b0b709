import Derived.Test.YteonapeoeckhfaaDoorR2
set_option linter.unusedVariables false
set_option linter.unusedSimpArgs false
namespace Go.Proofs.YteonapeoeckhfaaDoor
open Go.RowKit Go.Shelf
theorem Bv.cells' {w : World} {g : Nat} {a b c d : Value} (h : Bv w g (.agg #[a, b, c, d])) : w.heap[g]? = some (.cells #[a, b, c, d] 27 (0, 0)) := by
  obtain ⟨a', b', c', d', e, hb⟩ := h
  cases e
  exact hb
set_option maxRecDepth 100000 in
set_option maxHeartbeats 4000000 in
theorem rCheck_any (j : J) (v : Value) (w : World) (hv : RdV w v j) (hbl : blk j ≤ 1048576) :
    Calls Tryd.prog 16 #[v] w fun e w' => e = .returned (.int .i64 (chk j : Nat)) ∧ Keep w w' := by
  obtain ⟨k, t, an, n, cn, ai, m, ci, rfl⟩ := hv.agg
  have ka := (Keep.refl w).alloc (Obj.cells #[.int .u8 (k : Nat), .string t, .slice an n cn, .slice ai m ci] 27)
  have hb : Bv (w.alloc (Obj.cells #[.int .u8 (k : Nat), .string t, .slice an n cn, .slice ai m ci] 27)) w.heap.size (.agg #[.int .u8 (k : Nat), .string t, .slice an n cn, .slice ai m ci]) := ⟨_, _, _, _, rfl, heap_alloc_new w _⟩
  have hA := rdeep_in _ j _ _ (Nat.le_refl _) (hv.keep ka) hbl
  have hB := fun wx (kk : Keep (w.alloc (Obj.cells #[.int .u8 (k : Nat), .string t, .slice an n cn, .slice ai m ci] 27)) wx) => rform_in _ j _ wx (Nat.le_refl _) (hv.keep (ka.trans kk)) hbl
  have hC := fun wx (kk : Keep (w.alloc (Obj.cells #[.int .u8 (k : Nat), .string t, .slice an n cn, .slice ai m ci] 27)) wx) => rtwins_in _ j _ wx (Nat.le_refl _) (hv.keep (ka.trans kk)) hbl
  have hD : chk j = if dp j ≤ 256 then (if allJ plain j = true then (if allJ noTw j = true then 0 else 102) else 100) else 101 := rfl
  have hdb := dp_blk _ j (Nat.le_refl _)
  generalize chk j = R at hD ⊢
  generalize dp j = d at hA hD hdb
  generalize allJ plain j = p at hB hD
  generalize allJ noTw j = q at hC hD
  have HB : Hid (∀ wx, Keep (w.alloc (Obj.cells #[.int .u8 (k : Nat), .string t, .slice an n cn, .slice ai m ci] 27)) wx → Bv wx w.heap.size (.agg #[.int .u8 (k : Nat), .string t, .slice an n cn, .slice ai m ci])) := fun wx kk => hb.keep kk
  clear hv hb hbl
  by_cases h1 : d ≤ 256
  · rw [if_pos h1] at hD
    have g1 : ¬ ((d : Int) > 256) := by omega
    have g2 : decide ((256 : Int) < (d : Int)) = false := decide_eq_false (by omega)
    have g3 : ¬ 256 < d := by omega
    cases p with
    | false =>
      simp only [Bool.false_eq_true, if_false] at hD
      subst hD
      clear hC
      go_enter Tryd.func16, Tryd.ntmps16
      go_wp2_with (first
        | (go_at_call 36; refine hA.mono ?_; clear hA; rintro e w2 ⟨rfl, k2⟩; have HB2 := hB w2 k2; clear hB; obtain ⟨c0, c1, c2, c3⟩ := (HB.out w2 k2).cells)
        | (go_at_call 37; refine HB2.mono ?_; clear HB2; rintro e w3 ⟨rfl, k3⟩))
      go_ret
      exact ⟨rfl, (ka.trans k2).trans k3⟩
    | true =>
      simp only [if_true] at hD
      cases q with
      | false =>
        simp only [Bool.false_eq_true, if_false] at hD
        subst hD
        go_enter Tryd.func16, Tryd.ntmps16
        go_wp2_with (first
          | (go_at_call 36; refine hA.mono ?_; clear hA; rintro e w2 ⟨rfl, k2⟩; have HB2 := hB w2 k2; clear hB; obtain ⟨c0, c1, c2, c3⟩ := (HB.out w2 k2).cells)
          | (go_at_call 37; refine HB2.mono ?_; clear HB2; rintro e w3 ⟨rfl, k3⟩; have HC3 := hC w3 (k2.trans k3); clear hC; obtain ⟨d0, d1, d2, d3⟩ := (HB.out w3 (k2.trans k3)).cells)
          | (go_at_call 38; refine HC3.mono ?_; clear HC3; rintro e w4 ⟨rfl, k4⟩))
        go_ret
        exact ⟨rfl, ((ka.trans k2).trans k3).trans k4⟩
      | true =>
        simp only [if_true] at hD
        subst hD
        go_enter Tryd.func16, Tryd.ntmps16
        go_wp2_with (first
          | (go_at_call 36; refine hA.mono ?_; clear hA; rintro e w2 ⟨rfl, k2⟩; have HB2 := hB w2 k2; clear hB; obtain ⟨c0, c1, c2, c3⟩ := (HB.out w2 k2).cells)
          | (go_at_call 37; refine HB2.mono ?_; clear HB2; rintro e w3 ⟨rfl, k3⟩; have HC3 := hC w3 (k2.trans k3); clear hC; obtain ⟨d0, d1, d2, d3⟩ := (HB.out w3 (k2.trans k3)).cells)
          | (go_at_call 38; refine HC3.mono ?_; clear HC3; rintro e w4 ⟨rfl, k4⟩))
        go_ret
        exact ⟨rfl, ((ka.trans k2).trans k3).trans k4⟩
  · rw [if_neg h1] at hD
    have g1 : ((d : Int) > 256) := by omega
    have g2 : decide ((256 : Int) < (d : Int)) = true := decide_eq_true (by omega)
    have g3 : 256 < d := by omega
    subst hD
    clear hB hC
    go_enter Tryd.func16, Tryd.ntmps16
    go_wp2_with (go_at_call 36; refine hA.mono ?_; clear hA; rintro e w2 ⟨rfl, k2⟩)
    go_ret
    exact ⟨rfl, ka.trans k2⟩
end Go.Proofs.YteonapeoeckhfaaDoor
