import Derived.Test.YteonapeoeckhfaaDoorJB
set_option linter.unusedVariables false
set_option linter.unusedSimpArgs false
namespace Go.Proofs.YteonapeoeckhfaaDoor
open Go.RowKit
theorem ba_ne {x y : ByteArray} (h : x ≠ y) : (x.toList == y.toList) = false := by
  rw [beq_eq_false_iff_ne]
  intro e
  rw [ByteArray.toList_eq, ByteArray.toList_eq] at e
  exact h (ByteArray.ext (Array.toList_inj.mp e))
theorem ret_bool {a b : Bool} (h : a = b) : Ending.returned (.bool a) = .returned (.bool b) := by rw [h]
theorem ba_nn {x y : ByteArray} (h : x ≠ y) : (x.toList != y.toList) = true := by
  rw [bne, ba_ne h]
  rfl
theorem str_ext {l m : List ByteArray} (hl : l.length = m.length) (h : ∀ j, j < l.length → l.getD j ByteArray.empty = m.getD j ByteArray.empty) : l = m := by
  refine List.ext_getElem hl fun j h1 h2 => ?_
  have := h j h1
  simpa [List.getD, h1, h2] using this
theorem js_ext {l m : List J} (hl : l.length = m.length) (h : ∀ j, j < l.length → l.getD j j0 = m.getD j j0) : l = m := by
  refine List.ext_getElem hl fun j h1 h2 => ?_
  have := h j h1
  simpa [List.getD, h1, h2] using this
/-- Whether two are one. -/
def eqD {α : Type} (a b : α) (d : Decidable (a = b)) : Bool := @decide _ d
theorem eqJ_true {a b : J} (h : a = b) : eqD a b (Classical.propDecidable _) = true := by unfold eqD; simp [h]
theorem eqJ_false {a b : J} (h : a ≠ b) : eqD a b (Classical.propDecidable _) = false := by unfold eqD; simp [h]
set_option maxRecDepth 100000 in
set_option maxHeartbeats 1000000 in
theorem rSame_in : ∀ (n : Nat) (ja jb : J) (va vb : Value) (w : World), SizeOf.sizeOf ja ≤ n → RdV w va ja → RdV w vb jb →
    Calls Tryd.prog 11 #[va, vb] w fun e w' => e = .returned (.bool (eqD ja jb (Classical.propDecidable _))) ∧ Keep w w' := by
  intro n
  induction n with
  | zero => intro ja jb va vb w hs; cases ja; simp at hs
  | succ n ih =>
    intro ja jb va vb w hs ha hb
    cases ha with
    | mk k t ns is an cn ai ci X hk hn ln li hx hr =>
    cases hb with
    | mk k2 t2 ns2 is2 an2 cn2 ai2 ci2 X2 hk2 hn2 ln2 li2 hx2 hr2 =>
    have hlt : ∀ i, i < is.length → SizeOf.sizeOf (is.getD i j0) ≤ n := fun i hi => by
      have := J.is_lt (a := .mk k t ns is) (i := i) hi
      simp only [J.is] at this
      omega
    obtain ⟨w0, hw0, k0, tb, tc⟩ : ∃ w0, (w.alloc (Obj.cells #[.int .u8 (k : Nat), .string t, .slice an ns.length cn, .slice ai is.length ci] 27)).alloc (Obj.cells #[.int .u8 (k2 : Nat), .string t2, .slice an2 ns2.length cn2, .slice ai2 is2.length ci2] 27) = w0 ∧ Keep w w0 ∧ w0.heap[w.heap.size]? = some (Obj.cells #[.int .u8 (k : Nat), .string t, .slice an ns.length cn, .slice ai is.length ci] 27 (0, 0)) ∧ w0.heap[w.heap.size + 1]? = some (Obj.cells #[.int .u8 (k2 : Nat), .string t2, .slice an2 ns2.length cn2, .slice ai2 is2.length ci2] 27 (0, 0)) := by
      refine ⟨_, rfl, ((Keep.refl w).alloc _).alloc _, ?_, ?_⟩
      · have hs : w.heap.size < (w.alloc (Obj.cells #[.int .u8 (k : Nat), .string t, .slice an ns.length cn, .slice ai is.length ci] 27)).heap.size := by simp
        exact (((Keep.refl (w.alloc (Obj.cells #[.int .u8 (k : Nat), .string t, .slice an ns.length cn, .slice ai is.length ci] 27))).alloc _).block _ hs).trans (heap_alloc_new w _)
      · have hs : (w.alloc (Obj.cells #[.int .u8 (k : Nat), .string t, .slice an ns.length cn, .slice ai is.length ci] 27)).heap.size = w.heap.size + 1 := by simp
        rw [← hs]
        exact heap_alloc_new _ _
    have a0 := cell_of_row _ _ 0 _ 27 (0, 0) tb
    have a1 := cell_of_row _ _ 1 _ 27 (0, 0) tb
    have a2 := cell_of_row _ _ 2 _ 27 (0, 0) tb
    have a3 := cell_of_row _ _ 3 _ 27 (0, 0) tb
    have b0 := cell_of_row _ _ 0 _ 27 (0, 0) tc
    have b1 := cell_of_row _ _ 1 _ 27 (0, 0) tc
    have b2 := cell_of_row _ _ 2 _ 27 (0, 0) tc
    have b3 := cell_of_row _ _ 3 _ 27 (0, 0) tc
    simp only [List.getElem?_toArray, List.getElem?_cons_zero, List.getElem?_cons_succ] at a0 a1 a2 a3 b0 b1 b2 b3
    by_cases e1 : k = k2
    · subst e1
      by_cases e2 : t = t2
      · subst e2
        by_cases e3 : ns.length = ns2.length
        · by_cases e4 : is.length = is2.length
          · have c3 : ((ns.length : Int) != (ns2.length : Int)) = false := by rw [bne_eq_false_iff_eq]; omega
            have c4 : ((is.length : Int) != (is2.length : Int)) = false := by rw [bne_eq_false_iff_eq]; omega
            replace e3 : Hid _ := e3
            replace e4 : Hid _ := e4
            go_enter Tryd.func11, Tryd.ntmps11
            go_wp2_with fail
            go_loopw [5] (fun i wr => ∃ j : Nat, j ≤ ns.length ∧ i = .int .i64 j ∧ Hid (∀ p, p < j → ns.getD p ByteArray.empty = ns2.getD p ByteArray.empty) ∧ Keep w0 wr) (fun i _ => ns.length - (intOf i).toNat)
            case atStart => exact ⟨0, by omega, rfl, fun p hp => by omega, Keep.refl _⟩
            case round =>
              obtain ⟨j, hj, rfl, hq, kr⟩ := hrel
              have x2 := Keep.cell kr a2
              have x3 := Keep.cell kr a3
              have y2 := Keep.cell kr b2
              have y3 := Keep.cell kr b3
              by_cases hjl : j < ns.length
              · have hj2 : j < ns2.length := by have := e3.out; omega
                obtain ⟨bb, oo, hae, hc⟩ := (hn.keep (k0.trans kr)) j hjl
                obtain ⟨bb2, oo2, hae2, hc2⟩ := (hn2.keep (k0.trans kr)) j hj2
                subst hae hae2
                obtain ⟨s, hs1⟩ : ∃ s, ns.getD j ByteArray.empty = s := ⟨_, rfl⟩
                obtain ⟨s2, hs2⟩ : ∃ s2, ns2.getD j ByteArray.empty = s2 := ⟨_, rfl⟩
                rw [hs1] at hc
                rw [hs2] at hc2
                replace hs1 : Hid _ := hs1
                replace hs2 : Hid _ := hs2
                by_cases hss : s = s2
                · subst hss
                  have c5 : (s.toList != s.toList) = false := by rw [bne_eq_false_iff_eq]
                  clear ih hlt hx hx2 hr hr2
                  go_wp2
                  go_quiet (fail)
                  go_wp2
                  go_roundw
                  case rel =>
                    refine ⟨j + 1, by omega, by go_num, ?_, kr.drewN _⟩
                    intro p hp
                    by_cases hpj : p = j
                    · subst hpj; rw [hs1.out, hs2.out]
                    · exact hq.out p (by omega)
                  case measure => simp [intOf]; omega
                · have c5 := ba_nn hss
                  have c6 := ba_ne hss
                  have HE : Hid (eqD (J.mk k t ns is) (J.mk k t ns2 is2) (Classical.propDecidable _) = false) := eqJ_false (by
                    intro h
                    cases h
                    exact hss (hs1.out.symm.trans hs2.out))
                  clear ih hlt hx hx2 hr hr2
                  go_wp2
                  go_quiet (fail)
                  go_wp2
                  go_ret
                  exact ⟨ret_bool HE.out.symm, (k0.trans kr).drewN _⟩
              · have hns : Hid (ns = ns2) := str_ext e3.out (fun p hp => hq.out p (by omega))
                have krw := k0.trans kr
                go_wp2_with fail
                go_loopg [6] is.length (fun gg s6 wx => ∃ i : Nat, i ≤ is.length ∧ gg = is.length - i ∧ s6 = .int .i64 i ∧ Hid (∀ p, p < i → is.getD p j0 = is2.getD p j0) ∧ Keep wr wx)
                case atStart => exact ⟨0, by omega, by omega, rfl, fun p hp => by omega, Keep.refl _⟩
                case round =>
                  obtain ⟨i, hi, rfl, rfl, hqi, kq⟩ := hrel
                  have z2 := Keep.cell kq x3
                  have z3 := Keep.cell kq y3
                  by_cases hil : i < is.length
                  · have hi2 : i < is2.length := by have := e4.out; omega
                    have hi3 : i ≤ 140737488355328 := by omega
                    obtain ⟨bb, oo, hae, hc0, hc1, hc2, hc3⟩ := hx i hil
                    obtain ⟨bb2, oo2, hae2, hd0, hd1, hd2, hd3⟩ := hx2 i hi2
                    have kk := krw.trans kq
                    have f0 := Keep.cell kk hc0
                    have f1 := Keep.cell kk hc1
                    have f2 := Keep.cell kk hc2
                    have f3 := Keep.cell kk hc3
                    have g0 := Keep.cell kk hd0
                    have g1 := Keep.cell kk hd1
                    have g2 := Keep.cell kk hd2
                    have g3 := Keep.cell kk hd3
                    have hI := fun wx (kx : Keep w wx) => ih (is.getD i j0) (is2.getD i j0) _ _ wx (hlt i hil) ((hr i hil).keep kx) ((hr2 i hi2).keep kx)
                    subst hae hae2
                    clear hx hx2 hr hr2 ih hlt hc0 hc1 hc2 hc3 hd0 hd1 hd2 hd3
                    generalize (X i).1 = A0 at *
                    generalize (X i).2.1 = A1 at *
                    generalize (X i).2.2.1 = A2 at *
                    generalize (X i).2.2.2 = A3 at *
                    generalize (X2 i).1 = B0 at *
                    generalize (X2 i).2.1 = B1 at *
                    generalize (X2 i).2.2.1 = B2 at *
                    generalize (X2 i).2.2.2 = B3 at *
                    obtain ⟨ca, hca⟩ : ∃ ca, is.getD i j0 = ca := ⟨_, rfl⟩
                    obtain ⟨cb, hcb⟩ : ∃ cb, is2.getD i j0 = cb := ⟨_, rfl⟩
                    rw [hca, hcb] at hI
                    replace hca : Hid _ := hca
                    replace hcb : Hid _ := hcb
                    go_upto_region 11 with fail
                    go_cut [73] from 55 to 73 (fun s73 wx => s73 = .bool (!(eqD ca cb (Classical.propDecidable _))) ∧ Keep wr wx)
                    case first =>
                      go_region_with (go_at_call 11; refine (hI _ ?_).mono ?_; (first | exact kk | exact kk.drew | exact kk.drew.drew); rintro e wz ⟨rfl, kz⟩)
                      all_goals
                        go_wp2_with fail
                        go_meet
                        exact ⟨rfl, by first | exact kz | exact (Keep.refl _).drew.trans kz | exact (Keep.refl _).drew.drew.trans kz | exact ((Keep.refl _).drew.trans kz).drew | exact (kz).drew⟩
                    case rest =>
                      obtain ⟨rfl, kc⟩ := hcut
                      by_cases hab : ca = cb
                      · have c7 := eqJ_true hab
                        rw [c7]
                        replace hab : Hid _ := hab
                        clear hI
                        go_wp2_with fail
                        go_roundg (is.length - (i + 1))
                        case measure => omega
                        case rel =>
                          refine ⟨i + 1, by omega, rfl, by go_num, ?_, kq.trans kc⟩
                          intro p hp
                          by_cases hpj : p = i
                          · subst hpj; exact (hca.out.trans hab.out).trans hcb.out.symm
                          · exact hqi.out p (by omega)
                      · have c7 := eqJ_false hab
                        rw [c7]
                        have HE : Hid (eqD (J.mk k t ns is) (J.mk k t ns2 is2) (Classical.propDecidable _) = false) := eqJ_false (by
                          intro h
                          cases h
                          exact hab (hca.out.symm.trans hcb.out))
                        clear hI
                        go_wp2_with fail
                        go_ret
                        exact ⟨ret_bool HE.out.symm, (krw.trans kq).trans kc⟩
                  · have his : is = is2 := js_ext e4.out (fun p hp => hqi.out p (by omega))
                    have HE : Hid (eqD (J.mk k t ns is) (J.mk k t ns2 is2) (Classical.propDecidable _) = true) := eqJ_true (by rw [hns.out, his])
                    clear his hx hx2 hr hr2 ih hlt
                    go_wp2_with fail
                    go_ret
                    exact ⟨ret_bool HE.out.symm, krw.trans kq⟩
          · have c3 : ((ns.length : Int) != (ns2.length : Int)) = false := by rw [bne_eq_false_iff_eq]; omega
            have c4 : ((is.length : Int) != (is2.length : Int)) = true := by rw [bne_iff_ne]; omega
            have HE : Hid (eqD (J.mk k t ns is) (J.mk k t ns2 is2) (Classical.propDecidable _) = false) := eqJ_false (by intro h; cases h; exact e4 rfl)
            replace e3 : Hid _ := e3
            clear hx hx2 hr hr2 ih hlt
            go_enter Tryd.func11, Tryd.ntmps11
            go_wp2_with fail
            go_ret
            exact ⟨ret_bool HE.out.symm, k0⟩
        · have c3 : ((ns.length : Int) != (ns2.length : Int)) = true := by rw [bne_iff_ne]; omega
          have HE : Hid (eqD (J.mk k t ns is) (J.mk k t ns2 is2) (Classical.propDecidable _) = false) := eqJ_false (by intro h; cases h; exact e3 rfl)
          clear hx hx2 hr hr2 ih hlt
          go_enter Tryd.func11, Tryd.ntmps11
          go_wp2_with fail
          go_ret
          exact ⟨ret_bool HE.out.symm, k0⟩
      · have c2 := ba_nn e2
        have c3 := ba_ne e2
        have HE : Hid (eqD (J.mk k t ns is) (J.mk k t2 ns2 is2) (Classical.propDecidable _) = false) := eqJ_false (by intro h; cases h; exact e2 rfl)
        clear hx hx2 hr hr2 ih hlt
        go_enter Tryd.func11, Tryd.ntmps11
        go_wp2_with fail
        go_ret
        exact ⟨ret_bool HE.out.symm, k0⟩
    · have c1 : ((k : Int) != (k2 : Int)) = true := by rw [bne_iff_ne]; omega
      have HE : Hid (eqD (J.mk k t ns is) (J.mk k2 t2 ns2 is2) (Classical.propDecidable _) = false) := eqJ_false (by intro h; cases h; exact e1 rfl)
      clear hx hx2 hr hr2 ih hlt
      go_enter Tryd.func11, Tryd.ntmps11
      go_wp2_with fail
      go_ret
      exact ⟨ret_bool HE.out.symm, k0⟩
end Go.Proofs.YteonapeoeckhfaaDoor
