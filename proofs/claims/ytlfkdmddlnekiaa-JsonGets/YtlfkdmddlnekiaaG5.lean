import Derived.Test.YtlfkdmddlnekiaaG4
set_option linter.unusedVariables false
set_option linter.unusedSimpArgs false
namespace Go.Proofs.Ytlfkdmddlnekiaa
open Go.RowKit
theorem eqJ_mk (k k2 : Nat) (t t2 : ByteArray) (ns ns2 : List ByteArray) (is is2 : List J) (h1 : k = k2) (h2 : t = t2) : eqD (J.mk k t ns is) (J.mk k2 t2 ns2 is2) (Classical.propDecidable _) = (eqD ns ns2 (Classical.propDecidable _) && eqD is is2 (Classical.propDecidable _)) := by
  subst h1 h2
  by_cases h3 : ns = ns2
  · by_cases h4 : is = is2
    · rw [eqS_true h3, eqL_true h4, eqJ_true (by rw [h3, h4])]; rfl
    · rw [eqL_false h4, eqJ_false (by intro h; cases h; exact h4 rfl)]; simp
  · rw [eqS_false h3, eqJ_false (by intro h; cases h; exact h3 rfl)]; simp
set_option maxRecDepth 100000 in
set_option maxHeartbeats 1000000 in
theorem Same_in : ∀ (n : Nat), CmpOk n := by
  intro n
  induction n with
  | zero => intro ja jb va vb w hs; cases ja; simp at hs
  | succ n ih =>
    intro ja jb va vb w hs ha hb
    cases ha with
    | mk k t ns is an cn ai ci X hk hn ln li hx hr =>
    cases hb with
    | mk k2 t2 ns2 is2 an2 cn2 ai2 ci2 X2 hk2 hn2 ln2 li2 hx2 hr2 =>
    have hlt : ∀ i, i < is.length → SizeOf.sizeOf (is.getD i j0) ≤ n := fun i hi => by
      have := J.is_lt (a := .mk k t ns is) (i := i) hi
      simp only [J.is] at this
      omega
    have hcellk : ∀ wx, Keep w wx → ∀ (a : Option Addr) (l : List J) (Y : Nat → Value × Value × Value × Value), (∀ i, i < l.length → ∃ b o, a = some ⟨b, o, none⟩ ∧ w.cell? ⟨b, o + i * 4, none⟩ = some (Y i).1 ∧ w.cell? ⟨b, o + i * 4 + 1, none⟩ = some (Y i).2.1 ∧ w.cell? ⟨b, o + i * 4 + 2, none⟩ = some (Y i).2.2.1 ∧ w.cell? ⟨b, o + i * 4 + 3, none⟩ = some (Y i).2.2.2) → ∀ i, i < l.length → ∃ b o, a = some ⟨b, o, none⟩ ∧ wx.cell? ⟨b, o + i * 4, none⟩ = some (Y i).1 ∧ wx.cell? ⟨b, o + i * 4 + 1, none⟩ = some (Y i).2.1 ∧ wx.cell? ⟨b, o + i * 4 + 2, none⟩ = some (Y i).2.2.1 ∧ wx.cell? ⟨b, o + i * 4 + 3, none⟩ = some (Y i).2.2.2 := by
      intro wx kx a l Y h i hi
      obtain ⟨b, o, e, h1, h2, h3, h4⟩ := h i hi
      exact ⟨b, o, e, kx.cell h1, kx.cell h2, kx.cell h3, kx.cell h4⟩
    have hS := fun wx (kx : Keep w wx) => equalS_any an an2 cn cn2 ns ns2 wx ln ln2 (hn.keep kx) (hn2.keep kx)
    have hF := fun wx (kx : Keep w wx) => equalF_any n ih ai ai2 ci ci2 is is2 X X2 wx li li2 hlt (hcellk wx kx ai is X hx) (fun i hi => (hr i hi).keep kx) (hcellk wx kx ai2 is2 X2 hx2) (fun i hi => (hr2 i hi).keep kx)
    clear hcellk hx hx2 hr hr2 ih hlt
    obtain ⟨w0, hw0, k0, tb, tc⟩ : ∃ w0, (w.alloc (Obj.cells #[.int .u8 (k : Nat), .string t, .slice an ns.length cn, .slice ai is.length ci] 26)).alloc (Obj.cells #[.int .u8 (k2 : Nat), .string t2, .slice an2 ns2.length cn2, .slice ai2 is2.length ci2] 26) = w0 ∧ Keep w w0 ∧ w0.heap[w.heap.size]? = some (Obj.cells #[.int .u8 (k : Nat), .string t, .slice an ns.length cn, .slice ai is.length ci] 26 (0, 0)) ∧ w0.heap[w.heap.size + 1]? = some (Obj.cells #[.int .u8 (k2 : Nat), .string t2, .slice an2 ns2.length cn2, .slice ai2 is2.length ci2] 26 (0, 0)) := by
      refine ⟨_, rfl, ((Keep.refl w).alloc _).alloc _, ?_, ?_⟩
      · have hs : w.heap.size < (w.alloc (Obj.cells #[.int .u8 (k : Nat), .string t, .slice an ns.length cn, .slice ai is.length ci] 26)).heap.size := by simp
        exact (((Keep.refl (w.alloc (Obj.cells #[.int .u8 (k : Nat), .string t, .slice an ns.length cn, .slice ai is.length ci] 26))).alloc _).block _ hs).trans (heap_alloc_new w _)
      · have hs : (w.alloc (Obj.cells #[.int .u8 (k : Nat), .string t, .slice an ns.length cn, .slice ai is.length ci] 26)).heap.size = w.heap.size + 1 := by simp
        rw [← hs]
        exact heap_alloc_new _ _
    have a0 := cell_of_row _ _ 0 _ 26 (0, 0) tb
    have a1 := cell_of_row _ _ 1 _ 26 (0, 0) tb
    have a2 := cell_of_row _ _ 2 _ 26 (0, 0) tb
    have a3 := cell_of_row _ _ 3 _ 26 (0, 0) tb
    have b0 := cell_of_row _ _ 0 _ 26 (0, 0) tc
    have b1 := cell_of_row _ _ 1 _ 26 (0, 0) tc
    have b2 := cell_of_row _ _ 2 _ 26 (0, 0) tc
    have b3 := cell_of_row _ _ 3 _ 26 (0, 0) tc
    simp only [List.getElem?_toArray, List.getElem?_cons_zero, List.getElem?_cons_succ] at a0 a1 a2 a3 b0 b1 b2 b3
    have HM := eqJ_mk k k2 t t2 ns ns2 is is2
    replace HM : Hid _ := HM
    by_cases e1 : k = k2
    · by_cases e2 : t = t2
      · have c1 : ((k : Int) == (k2 : Int)) = true := by rw [beq_iff_eq]; omega
        have c2 : (t.toList == t2.toList) = true := by rw [e2]; simp
        have HE := HM.out e1 e2
        replace HE : Hid _ := HE
        replace e1 : Hid _ := e1
        replace e2 : Hid _ := e2
        cases hb1 : eqD ns ns2 (Classical.propDecidable _)
        · rw [hb1] at hS
          go_enter Try.func7, Try.ntmps7
          go_wp2_with fail
          refine (hS _ k0).mono ?_
          rintro e wz ⟨rfl, kz⟩
          go_wp2_with fail
          go_ret
          exact ⟨ret_bool (by rw [HE.out, hb1]; rfl), k0.trans kz⟩
        · rw [hb1] at hS
          go_enter Try.func7, Try.ntmps7
          go_wp2_with fail
          refine (hS _ k0).mono ?_
          rintro e wz ⟨rfl, kz⟩
          have x3 := Keep.cell kz a3
          have y3 := Keep.cell kz b3
          go_wp2_with fail
          refine (hF _ (k0.trans kz)).mono ?_
          rintro e wy ⟨rfl, ky⟩
          go_wp2_with fail
          go_ret
          exact ⟨ret_bool (by rw [HE.out, hb1]; simp), (k0.trans kz).trans ky⟩
      · have c1 : ((k : Int) == (k2 : Int)) = true := by rw [beq_iff_eq]; omega
        have c2 := ba_ne e2
        have HE : Hid (eqD (J.mk k t ns is) (J.mk k2 t2 ns2 is2) (Classical.propDecidable _) = false) := eqJ_false (by intro h; cases h; exact e2 rfl)
        clear hS hF
        replace e1 : Hid _ := e1
        go_enter Try.func7, Try.ntmps7
        go_wp2_with fail
        go_ret
        exact ⟨ret_bool HE.out.symm, k0⟩
    · have c1 : ((k : Int) == (k2 : Int)) = false := by rw [beq_eq_false_iff_ne]; omega
      have HE : Hid (eqD (J.mk k t ns is) (J.mk k2 t2 ns2 is2) (Classical.propDecidable _) = false) := eqJ_false (by intro h; cases h; exact e1 rfl)
      clear hS hF
      go_enter Try.func7, Try.ntmps7
      go_wp2_with fail
      go_ret
      exact ⟨ret_bool HE.out.symm, k0⟩
end Go.Proofs.Ytlfkdmddlnekiaa
