import Derived.Test.YtlfkdmddlnekiaaG3
set_option linter.unusedVariables false
set_option linter.unusedSimpArgs false
namespace Go.Proofs.Ytlfkdmddlnekiaa
open Go.RowKit
theorem eqL_true {a b : List J} (h : a = b) : eqD a b (Classical.propDecidable _) = true := by unfold eqD; simp [h]
theorem eqL_false {a b : List J} (h : a ≠ b) : eqD a b (Classical.propDecidable _) = false := by unfold eqD; simp [h]
theorem RdV.shape {w : World} {A0 A1 A2 A3 : Value} {j : J} (h : RdV w (.agg #[A0, A1, A2, A3]) j) : ∃ (k : Nat) (t : ByteArray) (an : Option Addr) (n cn : Nat) (ai : Option Addr) (m ci : Nat), A0 = .int .u8 (k : Nat) ∧ A1 = .string t ∧ A2 = .slice an n cn ∧ A3 = .slice ai m ci := by
  generalize hv : Value.agg #[A0, A1, A2, A3] = v at h
  cases h with
  | mk k t ns is an cn ai ci X hk hn ln li hx hr =>
    simp only [Value.agg.injEq, Array.mk.injEq, List.cons.injEq, and_true] at hv
    obtain ⟨rfl, rfl, rfl, rfl⟩ := hv
    exact ⟨k, t, an, ns.length, cn, ai, is.length, ci, rfl, rfl, rfl, rfl⟩
/-- What the function that is handed in must keep. -/
def CmpOk (n : Nat) : Prop := ∀ (ja jb : J) (va vb : Value) (w : World), SizeOf.sizeOf ja ≤ n → RdV w va ja → RdV w vb jb →
    Calls Try.prog 7 #[va, vb] w fun e w' => e = .returned (.bool (eqD ja jb (Classical.propDecidable _))) ∧ Keep w w'
set_option maxRecDepth 100000 in
set_option maxHeartbeats 1000000 in
theorem equalF_any (n : Nat) (ih : CmpOk n) (ai ai2 : Option Addr) (ci ci2 : Nat) (is is2 : List J) (X X2 : Nat → Value × Value × Value × Value) (w : World) (li : is.length ≤ 140737488355328) (li2 : is2.length ≤ 140737488355328) (hlt : ∀ i, i < is.length → SizeOf.sizeOf (is.getD i j0) ≤ n)
    (hx : ∀ i, i < is.length → ∃ b o, ai = some ⟨b, o, none⟩ ∧ w.cell? ⟨b, o + i * 4, none⟩ = some (X i).1 ∧ w.cell? ⟨b, o + i * 4 + 1, none⟩ = some (X i).2.1 ∧ w.cell? ⟨b, o + i * 4 + 2, none⟩ = some (X i).2.2.1 ∧ w.cell? ⟨b, o + i * 4 + 3, none⟩ = some (X i).2.2.2)
    (hr : ∀ i, i < is.length → RdV w (.agg #[(X i).1, (X i).2.1, (X i).2.2.1, (X i).2.2.2]) (is.getD i j0))
    (hx2 : ∀ i, i < is2.length → ∃ b o, ai2 = some ⟨b, o, none⟩ ∧ w.cell? ⟨b, o + i * 4, none⟩ = some (X2 i).1 ∧ w.cell? ⟨b, o + i * 4 + 1, none⟩ = some (X2 i).2.1 ∧ w.cell? ⟨b, o + i * 4 + 2, none⟩ = some (X2 i).2.2.1 ∧ w.cell? ⟨b, o + i * 4 + 3, none⟩ = some (X2 i).2.2.2)
    (hr2 : ∀ i, i < is2.length → RdV w (.agg #[(X2 i).1, (X2 i).2.1, (X2 i).2.2.1, (X2 i).2.2.2]) (is2.getD i j0)) :
    Calls Try.prog 12 #[.slice ai is.length ci, .slice ai2 is2.length ci2, .func (.func 7) #[] #[]] w fun e w' => e = .returned (.bool (eqD is is2 (Classical.propDecidable _))) ∧ Keep w w' := by
  by_cases e3 : is.length = is2.length
  · have c3 : ((is.length : Int) != (is2.length : Int)) = false := by rw [bne_eq_false_iff_eq]; omega
    replace e3 : Hid _ := e3
    go_enter Try.func12, Try.ntmps12
    go_wp2_with fail
    go_loopg [17] is.length (fun gg s17 wx => ∃ i : Nat, i ≤ is.length ∧ gg = is.length - i ∧ s17 = .int .i64 i ∧ Hid (∀ p, p < i → is.getD p j0 = is2.getD p j0) ∧ Keep w wx)
    case atStart => exact ⟨0, by omega, by omega, rfl, fun p hp => by omega, Keep.refl _⟩
    case round =>
      obtain ⟨i, hi, rfl, rfl, hqi, kq⟩ := hrel
      by_cases hil : i < is.length
      · have hi2 : i < is2.length := by have := e3.out; omega
        have hi3 : i ≤ 140737488355328 := by omega
        obtain ⟨bb, oo, hae, hc0, hc1, hc2, hc3⟩ := hx i hil
        obtain ⟨bb2, oo2, hae2, hd0, hd1, hd2, hd3⟩ := hx2 i hi2
        have f0 := Keep.cell kq hc0
        have f1 := Keep.cell kq hc1
        have f2 := Keep.cell kq hc2
        have f3 := Keep.cell kq hc3
        have g0 := Keep.cell kq hd0
        have g1 := Keep.cell kq hd1
        have g2 := Keep.cell kq hd2
        have g3 := Keep.cell kq hd3
        have hI := fun wx (kx : Keep w wx) => ih (is.getD i j0) (is2.getD i j0) _ _ wx (hlt i hil) ((hr i hil).keep kx) ((hr2 i hi2).keep kx)
        have sh1 := (hr i hil).shape
        have sh2 := (hr2 i hi2).shape
        subst hae hae2
        have lt1 : bb < wr.heap.size := World.block_lt_of_cell? _ _ f0
        have lt2 : bb2 < wr.heap.size := World.block_lt_of_cell? _ _ g0
        clear hx hx2 hr hr2 ih hlt hc0 hc1 hc2 hc3 hd0 hd1 hd2 hd3
        generalize (X i).1 = A0 at *
        generalize (X i).2.1 = A1 at *
        generalize (X i).2.2.1 = A2 at *
        generalize (X i).2.2.2 = A3 at *
        generalize (X2 i).1 = B0 at *
        generalize (X2 i).2.1 = B1 at *
        generalize (X2 i).2.2.1 = B2 at *
        generalize (X2 i).2.2.2 = B3 at *
        obtain ⟨q1, q2, q3, q4, q5, q6, q7, q8, rfl, rfl, rfl, rfl⟩ := sh1
        obtain ⟨r1, r2, r3, r4, r5, r6, r7, r8, rfl, rfl, rfl, rfl⟩ := sh2
        obtain ⟨ca, hca⟩ : ∃ ca, is.getD i j0 = ca := ⟨_, rfl⟩
        obtain ⟨cb, hcb⟩ : ∃ cb, is2.getD i j0 = cb := ⟨_, rfl⟩
        rw [hca, hcb] at hI
        replace hca : Hid _ := hca
        replace hcb : Hid _ := hcb
        go_wp2_with fail
        refine (hI _ ((kq.alloc _).alloc _)).mono ?_
        rintro e wz ⟨rfl, kz⟩
        have kf := ((kq.alloc (Obj.cells #[Value.int IntKind.u8 (q1 : Nat), Value.string q2, Value.slice q3 q4 q5, Value.slice q6 q7 q8] 26)).alloc (Obj.cells #[Value.int IntKind.u8 (r1 : Nat), Value.string r2, Value.slice r3 r4 r5, Value.slice r6 r7 r8] 26)).trans kz
        clear hI
        by_cases hab : ca = cb
        · have c7 := eqJ_true hab
          rw [c7]
          replace hab : Hid _ := hab
          go_wp2_with fail
          go_roundg (is.length - (i + 1))
          case measure => omega
          case rel =>
            refine ⟨i + 1, by omega, rfl, by go_num, ?_, kf⟩
            intro p hp
            by_cases hpj : p = i
            · subst hpj; exact (hca.out.trans hab.out).trans hcb.out.symm
            · exact hqi.out p (by omega)
        · have c7 := eqJ_false hab
          rw [c7]
          have HE : Hid (eqD is is2 (Classical.propDecidable _) = false) := eqL_false (by
            intro h
            subst h
            exact hab (hca.out.symm.trans hcb.out))
          go_wp2_with fail
          go_ret
          exact ⟨ret_bool HE.out.symm, kf⟩
      · have his : is = is2 := js_ext e3.out (fun p hp => hqi.out p (by omega))
        have HE : Hid (eqD is is2 (Classical.propDecidable _) = true) := eqL_true his
        clear his hx hx2 hr hr2 ih hlt
        go_wp2_with fail
        go_ret
        exact ⟨ret_bool HE.out.symm, kq⟩
  · have c3 : ((is.length : Int) != (is2.length : Int)) = true := by rw [bne_iff_ne]; omega
    have HE : Hid (eqD is is2 (Classical.propDecidable _) = false) := eqL_false (by intro h; exact e3 (by rw [h]))
    replace e3 : Hid _ := e3
    clear hx hx2 hr hr2 ih hlt
    go_enter Try.func12, Try.ntmps12
    go_wp2_with fail
    go_ret
    exact ⟨ret_bool HE.out.symm, Keep.refl _⟩
end Go.Proofs.Ytlfkdmddlnekiaa
