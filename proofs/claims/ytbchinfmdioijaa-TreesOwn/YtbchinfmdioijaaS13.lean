import Derived.Test.YtbchinfmdioijaaS9
import Derived.Test.YtbchinfmdioijaaRJ
import Derived.Deep.RegionHeld3
set_option linter.unusedVariables false
set_option linter.unusedSimpArgs false
namespace Go.Proofs.Ytbchinfmdioijaa
open Go.RowKit Go.Shelf
attribute [local go_sem] run_store_float
set_option maxRecDepth 100000 in
theorem equalI_any (a b : Option Addr) (ca cb : Nat) (la lb : List Int) (w : World) (hla : la.length ≤ 17592186044416) (ha : RdI w a la) (hb : RdI w b lb) :
    Calls Try.prog 84 #[.slice a la.length ca, .slice b lb.length cb] w fun e w' => e = .returned (.bool (decide (la = lb))) ∧ Keep w w' := by
  by_cases hl : la.length = lb.length
  · go_enter Try.func84, Try.ntmps84
    rw [← hl]
    replace hl : Hid _ := hl
    go_wp2_with fail
    go_loopw [13] (fun iv wr => ∃ k : Nat, k ≤ la.length ∧ iv = .int .i64 k ∧ Keep w wr ∧ Hid (∀ j, j < k → la.getD j 0 = lb.getD j 0)) (fun iv _ => la.length - (intOf iv).toNat)
    case atStart => exact ⟨0, by omega, rfl, Keep.refl w, by intro j hj; omega⟩
    case round =>
      obtain ⟨k, hk, rfl, kw, hinv⟩ := hrel
      by_cases hkl : k < la.length
      · have hkc : (k : Int) < (la.length : Int) := by omega
        have hkl2 : k < lb.length := by have := hl.out; omega
        obtain ⟨b1, o1, rfl, c1⟩ := (ha.keep kw) k hkl
        obtain ⟨b2, o2, rfl, c2⟩ := (hb.keep kw) k hkl2
        obtain ⟨x, hx⟩ : ∃ x, la.getD k 0 = x := ⟨_, rfl⟩
        obtain ⟨y, hy⟩ : ∃ y, lb.getD k 0 = y := ⟨_, rfl⟩
        rw [hx] at c1
        rw [hy] at c2
        have HX : Hid (la.getD k 0 = x ∧ lb.getD k 0 = y) := ⟨hx, hy⟩
        clear hx hy
        by_cases hxy : x = y
        · subst hxy
          have HN : Hid (∀ j, j < k + 1 → la.getD j 0 = lb.getD j 0) := by
            intro j hj
            by_cases e : j = k
            · subst e; rw [HX.out.1, HX.out.2]
            · exact hinv.out j (by omega)
          go_wp2_with fail
          go_region_with fail
          all_goals
            go_simp
            go_wp2_with fail
            go_roundw
            case rel => exact ⟨k + 1, by omega, by go_num, kw.drew, HN⟩
            case measure => simp [intOf]; omega
        · have hB : (x == y) = false := by simpa using hxy
          have hB2 : (x != y) = true := by simpa using hxy
          have HF : Hid (decide (la = lb) = false) := by
            show _ = _
            rw [decide_eq_false_iff_not]
            intro e
            have := HX.out
            rw [e] at this
            exact hxy (this.1.symm.trans this.2)
          clear hxy
          go_wp2_with fail
          go_region_with fail
          all_goals
            go_simp
            go_wp2_with fail
            go_ret
            exact ⟨ret_bool HF.out.symm, kw.drew⟩
      · have hkc : ¬ (k : Int) < (la.length : Int) := by omega
        have HT : Hid (decide (la = lb) = true) := decide_eq_true (int_ext hl.out (fun j hj => hinv.out j (by omega)))
        go_wp2_with fail
        go_ret
        exact ⟨ret_bool HT.out.symm, kw⟩
  · have hB : ((la.length : Int) == (lb.length : Int)) = false := by rw [beq_eq_false_iff_ne]; omega
    have hB2 : ((la.length : Int) != (lb.length : Int)) = true := by simp; omega
    have HF : Hid (decide (la = lb) = false) := by
      show _ = _
      rw [decide_eq_false_iff_not]
      intro e; rw [e] at hl; exact hl rfl
    go_enter Try.func84, Try.ntmps84
    go_wp2_with fail
    go_ret
    exact ⟨ret_bool HF.out.symm, Keep.refl _⟩
/-- Whether two nodes are the same in the first fields. -/
def alB (n m : Nd) : Nat → Bool
  | 0 => ((n.kd : Int) == (m.kd : Int))
  | 1 => (((n.kd : Int) == (m.kd : Int)) && ((n.vl : Int) == (m.vl : Int)))
  | 2 => ((((n.kd : Int) == (m.kd : Int)) && ((n.vl : Int) == (m.vl : Int))) && ((n.ft : Int) == (m.ft : Int)))
  | 3 => (((((n.kd : Int) == (m.kd : Int)) && ((n.vl : Int) == (m.vl : Int))) && ((n.ft : Int) == (m.ft : Int))) && ((n.th : Int) == (m.th : Int)))
  | 4 => ((((((n.kd : Int) == (m.kd : Int)) && ((n.vl : Int) == (m.vl : Int))) && ((n.ft : Int) == (m.ft : Int))) && ((n.th : Int) == (m.th : Int))) && (decide (n.cs = m.cs)))
  | 5 => (((((((n.kd : Int) == (m.kd : Int)) && ((n.vl : Int) == (m.vl : Int))) && ((n.ft : Int) == (m.ft : Int))) && ((n.th : Int) == (m.th : Int))) && (decide (n.cs = m.cs))) && ((n.ms : Int) == (m.ms : Int)))
  | 6 => ((((((((n.kd : Int) == (m.kd : Int)) && ((n.vl : Int) == (m.vl : Int))) && ((n.ft : Int) == (m.ft : Int))) && ((n.th : Int) == (m.th : Int))) && (decide (n.cs = m.cs))) && ((n.ms : Int) == (m.ms : Int))) && ((n.lf : Int) == (m.lf : Int)))
  | 7 => (((((((((n.kd : Int) == (m.kd : Int)) && ((n.vl : Int) == (m.vl : Int))) && ((n.ft : Int) == (m.ft : Int))) && ((n.th : Int) == (m.th : Int))) && (decide (n.cs = m.cs))) && ((n.ms : Int) == (m.ms : Int))) && ((n.lf : Int) == (m.lf : Int))) && ((n.rt : Int) == (m.rt : Int)))
  | _ => false
theorem alB_iff (n m : Nd) : alB n m 7 = true ↔ n = m := by
  constructor
  · intro h
    obtain ⟨kd1, vl1, ft1, th1, cs1, ms1, lf1, rt1⟩ := n
    obtain ⟨kd2, vl2, ft2, th2, cs2, ms2, lf2, rt2⟩ := m
    simp [alB] at h
    obtain ⟨⟨⟨⟨⟨⟨⟨h0, h1⟩, h2⟩, h3⟩, h4⟩, h5⟩, h6⟩, h7⟩ := h
    subst h1 h2 h4 h6 h7
    obtain rfl : kd1 = kd2 := by omega
    obtain rfl : th1 = th2 := by omega
    obtain rfl : ms1 = ms2 := by omega
    rfl
  · rintro rfl
    simp [alB]
/-- What is there, if it is wanted. -/
def gdW (c : Bool) (v : Value) : Value := if c = true then v else undef
theorem gdW_no (v : Value) : gdW false v = undef := rfl
theorem gdW_yes (v : Value) : gdW true v = v := rfl
def alU (n m : Nd) (s : Nat) (ca1 ca2 : Option Addr) (cp1 cp2 : Nat) : Nat → Value
  | 0 => (.pointer (some ⟨s, 0, none⟩))
  | 1 => (.int .u8 n.kd)
  | 2 => (.pointer (some ⟨s + 1, 0, none⟩))
  | 3 => (.int .u8 m.kd)
  | 4 => (.bool ((n.kd : Int) == (m.kd : Int)))
  | 5 => (.bool (alB n m 0))
  | 6 => gdW (alB n m 0) (.pointer (some ⟨s, 1, none⟩))
  | 7 => gdW (alB n m 0) (.int .i64 n.vl)
  | 8 => gdW (alB n m 0) (.pointer (some ⟨s + 1, 1, none⟩))
  | 9 => gdW (alB n m 0) (.int .i64 m.vl)
  | 10 => gdW (alB n m 0) (.bool ((n.vl : Int) == (m.vl : Int)))
  | 11 => (.bool (alB n m 1))
  | 12 => (.bool (alB n m 1))
  | 13 => gdW (alB n m 1) (.pointer (some ⟨s, 2, none⟩))
  | 14 => gdW (alB n m 1) (.int .i64 n.ft)
  | 15 => gdW (alB n m 1) (.pointer (some ⟨s + 1, 2, none⟩))
  | 16 => gdW (alB n m 1) (.int .i64 m.ft)
  | 17 => gdW (alB n m 1) (.bool ((n.ft : Int) == (m.ft : Int)))
  | 18 => (.bool (alB n m 2))
  | 19 => (.bool (alB n m 2))
  | 20 => gdW (alB n m 2) (.pointer (some ⟨s, 3, none⟩))
  | 21 => gdW (alB n m 2) (.float .f64 n.th)
  | 22 => gdW (alB n m 2) (.int .u64 n.th)
  | 23 => gdW (alB n m 2) (.pointer (some ⟨s + 1, 3, none⟩))
  | 24 => gdW (alB n m 2) (.float .f64 m.th)
  | 25 => gdW (alB n m 2) (.int .u64 m.th)
  | 26 => gdW (alB n m 2) (.bool ((n.th : Int) == (m.th : Int)))
  | 27 => (.bool (alB n m 3))
  | 28 => (.bool (alB n m 3))
  | 29 => gdW (alB n m 3) (.pointer (some ⟨s, 4, none⟩))
  | 30 => gdW (alB n m 3) (.slice ca1 n.cs.length cp1)
  | 31 => gdW (alB n m 3) (.pointer (some ⟨s + 1, 4, none⟩))
  | 32 => gdW (alB n m 3) (.slice ca2 m.cs.length cp2)
  | 33 => gdW (alB n m 3) (.bool (decide (n.cs = m.cs)))
  | 34 => (.bool (alB n m 4))
  | 35 => (.bool (alB n m 4))
  | 36 => gdW (alB n m 4) (.pointer (some ⟨s, 5, none⟩))
  | 37 => gdW (alB n m 4) (.int .u8 n.ms)
  | 38 => gdW (alB n m 4) (.pointer (some ⟨s + 1, 5, none⟩))
  | 39 => gdW (alB n m 4) (.int .u8 m.ms)
  | 40 => gdW (alB n m 4) (.bool ((n.ms : Int) == (m.ms : Int)))
  | 41 => (.bool (alB n m 5))
  | 42 => (.bool (alB n m 5))
  | 43 => gdW (alB n m 5) (.pointer (some ⟨s, 6, none⟩))
  | 44 => gdW (alB n m 5) (.int .i64 n.lf)
  | 45 => gdW (alB n m 5) (.pointer (some ⟨s + 1, 6, none⟩))
  | 46 => gdW (alB n m 5) (.int .i64 m.lf)
  | 47 => gdW (alB n m 5) (.bool ((n.lf : Int) == (m.lf : Int)))
  | 48 => (.bool (alB n m 6))
  | 49 => (.bool (alB n m 6))
  | 50 => gdW (alB n m 6) (.pointer (some ⟨s, 7, none⟩))
  | 51 => gdW (alB n m 6) (.int .i64 n.rt)
  | 52 => gdW (alB n m 6) (.pointer (some ⟨s + 1, 7, none⟩))
  | 53 => gdW (alB n m 6) (.int .i64 m.rt)
  | 54 => gdW (alB n m 6) (.bool ((n.rt : Int) == (m.rt : Int)))
  | 55 => (.bool (alB n m 7))
  | 56 => (.bool (alB n m 7))
  | _ => undef
set_option maxRecDepth 100000 in
set_option maxHeartbeats 4000000 in
theorem alikeNodes_any (n m : Nd) (ca1 ca2 : Option Addr) (cp1 cp2 : Nat) (w : World) (r1 : RdI w ca1 n.cs) (r2 : RdI w ca2 m.cs) (sz1 : n.cs.length ≤ 17592186044416) :
    Calls Try.prog 71 #[n.v ca1 cp1, m.v ca2 cp2] w fun e w' => e = .returned (.bool (alB n m 7)) ∧ Keep w w' := by
  obtain ⟨w2, hw2, k2, s2, x0, x1⟩ := boxes2n w #[Value.int IntKind.u8 n.kd, Value.int IntKind.i64 n.vl, Value.int IntKind.i64 n.ft, Value.float FloatKind.f64 n.th, Value.slice ca1 n.cs.length cp1, Value.int IntKind.u8 n.ms, Value.int IntKind.i64 n.lf, Value.int IntKind.i64 n.rt] #[Value.int IntKind.u8 m.kd, Value.int IntKind.i64 m.vl, Value.int IntKind.i64 m.ft, Value.float FloatKind.f64 m.th, Value.slice ca2 m.cs.length cp2, Value.int IntKind.u8 m.ms, Value.int IntKind.i64 m.lf, Value.int IntKind.i64 m.rt] 40 40
  have y0 := cell_of_row _ _ 0 _ 40 (0, 0) x0
  have y1 := cell_of_row _ _ 1 _ 40 (0, 0) x0
  have y2 := cell_of_row _ _ 2 _ 40 (0, 0) x0
  have y3 := cell_of_row _ _ 3 _ 40 (0, 0) x0
  have y4 := cell_of_row _ _ 4 _ 40 (0, 0) x0
  have y5 := cell_of_row _ _ 5 _ 40 (0, 0) x0
  have y6 := cell_of_row _ _ 6 _ 40 (0, 0) x0
  have y7 := cell_of_row _ _ 7 _ 40 (0, 0) x0
  have z0 := cell_of_row _ _ 0 _ 40 (0, 0) x1
  have z1 := cell_of_row _ _ 1 _ 40 (0, 0) x1
  have z2 := cell_of_row _ _ 2 _ 40 (0, 0) x1
  have z3 := cell_of_row _ _ 3 _ 40 (0, 0) x1
  have z4 := cell_of_row _ _ 4 _ 40 (0, 0) x1
  have z5 := cell_of_row _ _ 5 _ 40 (0, 0) x1
  have z6 := cell_of_row _ _ 6 _ 40 (0, 0) x1
  have z7 := cell_of_row _ _ 7 _ 40 (0, 0) x1
  simp only [List.getElem?_toArray, List.getElem?_cons_zero, List.getElem?_cons_succ] at y0 y1 y2 y3 y4 y5 y6 y7 z0 z1 z2 z3 z4 z5 z6 z7
  have hI := fun (wx : World) (kx : Keep w2 wx) => equalI_any ca1 ca2 cp1 cp2 n.cs m.cs wx sz1 ((r1.keep k2).keep kx) ((r2.keep k2).keep kx)
  clear x0 x1 s2 r1 r2
  replace hw2 : Hid _ := hw2
  unfold Nd.v
  go_enter Try.func71, Try.ntmps71
  go_wp2_with fail
  rw [hw2.out]
  generalize w.heap.size = s at y0 y1 y2 y3 y4 y5 y6 y7 z0 z1 z2 z3 z4 z5 z6 z7 ⊢
  refine Code.wp_mono (Q := fun e a' w' => e = .normal ∧ ∃ x : Nat → Value, a' = { tmps := #[Value.agg #[Value.int IntKind.u8 n.kd, Value.int IntKind.i64 n.vl, Value.int IntKind.i64 n.ft, Value.float FloatKind.f64 n.th, Value.slice ca1 n.cs.length cp1, Value.int IntKind.u8 n.ms, Value.int IntKind.i64 n.lf, Value.int IntKind.i64 n.rt], Value.agg #[Value.int IntKind.u8 m.kd, Value.int IntKind.i64 m.vl, Value.int IntKind.i64 m.ft, Value.float FloatKind.f64 m.th, Value.slice ca2 m.cs.length cp2, Value.int IntKind.u8 m.ms, Value.int IntKind.i64 m.lf, Value.int IntKind.i64 m.rt], .pointer (some ⟨s, 0, none⟩), .pointer (some ⟨s + 1, 0, none⟩), x 56, x 0, x 1, x 2, x 3, x 4, x 5, x 6, x 7, x 8, x 9, x 10, x 11, x 12, x 13, x 14, x 15, x 16, x 17, x 18, x 19, x 20, x 21, x 22, x 23, x 24, x 25, x 26, x 27, x 28, x 29, x 30, x 31, x 32, x 33, x 34, x 35, x 36, x 37, x 38, x 39, x 40, x 41, x 42, x 43, x 44, x 45, x 46, x 47, x 48, x 49, x 50, x 51, x 52, x 53, x 54, x 55], defers := [] } ∧ Keep w2 w' ∧ x 56 = .bool (alB n m 7)) ?_ ?_
  rotate_left
  · refine wp_region_inv (alI (alU n m s ca1 ca2 cp1 cp2) w2 (fun x => { tmps := #[Value.agg #[Value.int IntKind.u8 n.kd, Value.int IntKind.i64 n.vl, Value.int IntKind.i64 n.ft, Value.float FloatKind.f64 n.th, Value.slice ca1 n.cs.length cp1, Value.int IntKind.u8 n.ms, Value.int IntKind.i64 n.lf, Value.int IntKind.i64 n.rt], Value.agg #[Value.int IntKind.u8 m.kd, Value.int IntKind.i64 m.vl, Value.int IntKind.i64 m.ft, Value.float FloatKind.f64 m.th, Value.slice ca2 m.cs.length cp2, Value.int IntKind.u8 m.ms, Value.int IntKind.i64 m.lf, Value.int IntKind.i64 m.rt], .pointer (some ⟨s, 0, none⟩), .pointer (some ⟨s + 1, 0, none⟩), x 56, x 0, x 1, x 2, x 3, x 4, x 5, x 6, x 7, x 8, x 9, x 10, x 11, x 12, x 13, x 14, x 15, x 16, x 17, x 18, x 19, x 20, x 21, x 22, x 23, x 24, x 25, x 26, x 27, x 28, x 29, x 30, x 31, x 32, x 33, x 34, x 35, x 36, x 37, x 38, x 39, x 40, x 41, x 42, x 43, x 44, x 45, x 46, x 47, x 48, x 49, x 50, x 51, x 52, x 53, x 54, x 55], defers := [] })) (by kernel_rfl) (fun l A w h => h.1) ⟨rfl, (fun j => if j = 56 then .bool false else undef), rfl, (Keep.refl w2).drew, fun j hj => ?_⟩ ?_ ?_
    · exfalso
      simp [Array.getD] at hj
    · rintro l A w ii ⟨hs, x, rfl, kw, hF⟩ hi
      obtain ⟨-, o, ho, hd⟩ := mem_ready.1 hi
      have hlt := (Array.getElem?_eq_some_iff.1 ho).1
      match ii, hlt with
      | 0, _ =>
        simp only [List.getElem?_toArray, List.getElem?_cons_succ, List.getElem?_cons_zero, Option.some.injEq] at ho
        subst ho
        have vk : alU n m s ca1 ca2 cp1 cp2 0 = (.pointer (some ⟨s, 0, none⟩)) := rfl
        refine wpOp_step rfl (fun K hK => ?_)
        go_simp
        exact hK _ _ (alI.next 0 hs kw hF (Keep.refl w) (by rw [vk]; simp [updV]))
      | 1, _ =>
        simp only [List.getElem?_toArray, List.getElem?_cons_succ, List.getElem?_cons_zero, Option.some.injEq] at ho
        subst ho
        have e0 : x 0 = (.pointer (some ⟨s, 0, none⟩)) := hF 0 (hd { on := 0, ground := .data } (by simp) rfl)
        have vk : alU n m s ca1 ca2 cp1 cp2 1 = (.int .u8 n.kd) := rfl
        refine wpOp_step rfl (fun K hK => ?_)
        have cc := kw.cell y0
        go_simp
        exact hK _ _ (alI.next 1 hs kw hF (Keep.refl w) (by rw [vk]; simp [updV, e0]))
      | 2, _ =>
        simp only [List.getElem?_toArray, List.getElem?_cons_succ, List.getElem?_cons_zero, Option.some.injEq] at ho
        subst ho
        have vk : alU n m s ca1 ca2 cp1 cp2 2 = (.pointer (some ⟨s + 1, 0, none⟩)) := rfl
        refine wpOp_step rfl (fun K hK => ?_)
        go_simp
        exact hK _ _ (alI.next 2 hs kw hF (Keep.refl w) (by rw [vk]; simp [updV]))
      | 3, _ =>
        simp only [List.getElem?_toArray, List.getElem?_cons_succ, List.getElem?_cons_zero, Option.some.injEq] at ho
        subst ho
        have e2 : x 2 = (.pointer (some ⟨s + 1, 0, none⟩)) := hF 2 (hd { on := 2, ground := .data } (by simp) rfl)
        have vk : alU n m s ca1 ca2 cp1 cp2 3 = (.int .u8 m.kd) := rfl
        refine wpOp_step rfl (fun K hK => ?_)
        have cc := kw.cell z0
        go_simp
        exact hK _ _ (alI.next 3 hs kw hF (Keep.refl w) (by rw [vk]; simp [updV, e2]))
      | 4, _ =>
        simp only [List.getElem?_toArray, List.getElem?_cons_succ, List.getElem?_cons_zero, Option.some.injEq] at ho
        subst ho
        have e1 : x 1 = (.int .u8 n.kd) := hF 1 (hd { on := 1, ground := .data } (by simp) rfl)
        have e3 : x 3 = (.int .u8 m.kd) := hF 3 (hd { on := 3, ground := .data } (by simp) rfl)
        have vk : alU n m s ca1 ca2 cp1 cp2 4 = (.bool ((n.kd : Int) == (m.kd : Int))) := rfl
        refine wpOp_step rfl (fun K hK => ?_)
        go_simp
        exact hK _ _ (alI.next 4 hs kw hF (Keep.refl w) (by rw [vk]; simp [updV, e1, e3]))
      | 5, _ =>
        simp only [List.getElem?_toArray, List.getElem?_cons_succ, List.getElem?_cons_zero, Option.some.injEq] at ho
        subst ho
        have e4 : x 4 = (.bool ((n.kd : Int) == (m.kd : Int))) := hF 4 (hd { on := 4, ground := .data } (by simp) rfl)
        have vk : alU n m s ca1 ca2 cp1 cp2 5 = (.bool (alB n m 0)) := rfl
        have ac : alB n m 0 = ((n.kd : Int) == (m.kd : Int)) := rfl
        rw [ac] at vk
        refine wpOp_step rfl (fun K hK => ?_)
        go_simp
        exact hK _ _ (alI.next 5 hs kw hF (Keep.refl w) (by rw [vk]; simp [updV, e4]))
      | 6, _ =>
        simp only [List.getElem?_toArray, List.getElem?_cons_succ, List.getElem?_cons_zero, Option.some.injEq] at ho
        subst ho
        have e5 : x 5 = .bool (alB n m 0) := hF 5 (hd { on := 5, ground := .guard } (by simp) rfl)
        have vk : alU n m s ca1 ca2 cp1 cp2 6 = gdW (alB n m 0) (.pointer (some ⟨s, 1, none⟩)) := rfl
        cases hc : alB n m 0
        · simp only [hc, gdW_no, gdW_yes, Bool.false_and, Bool.true_and] at e5 vk
          refine wpOp_step rfl (fun K hK => ?_)
          go_simp
          exact hK _ _ (alI.next 6 hs kw hF (Keep.refl w) (by rw [vk]; simp [updV, e5]))
        · simp only [hc, gdW_no, gdW_yes, Bool.false_and, Bool.true_and] at e5 vk
          refine wpOp_step rfl (fun K hK => ?_)
          go_simp
          exact hK _ _ (alI.next 6 hs kw hF (Keep.refl w) (by rw [vk]; simp [updV, e5]))
      | 7, _ =>
        simp only [List.getElem?_toArray, List.getElem?_cons_succ, List.getElem?_cons_zero, Option.some.injEq] at ho
        subst ho
        have e6 : x 6 = gdW (alB n m 0) (.pointer (some ⟨s, 1, none⟩)) := hF 6 (hd { on := 6, ground := .data } (by simp) rfl)
        have e5 : x 5 = .bool (alB n m 0) := hF 5 (hd { on := 5, ground := .guard } (by simp) rfl)
        have vk : alU n m s ca1 ca2 cp1 cp2 7 = gdW (alB n m 0) (.int .i64 n.vl) := rfl
        cases hc : alB n m 0
        · simp only [hc, gdW_no, gdW_yes, Bool.false_and, Bool.true_and] at e6 e5 vk
          refine wpOp_step rfl (fun K hK => ?_)
          go_simp
          exact hK _ _ (alI.next 7 hs kw hF (Keep.refl w) (by rw [vk]; simp [updV, e6, e5]))
        · simp only [hc, gdW_no, gdW_yes, Bool.false_and, Bool.true_and] at e6 e5 vk
          refine wpOp_step rfl (fun K hK => ?_)
          have cc := kw.cell y1
          go_simp
          exact hK _ _ (alI.next 7 hs kw hF (Keep.refl w) (by rw [vk]; simp [updV, e6, e5]))
      | 8, _ =>
        simp only [List.getElem?_toArray, List.getElem?_cons_succ, List.getElem?_cons_zero, Option.some.injEq] at ho
        subst ho
        have e5 : x 5 = .bool (alB n m 0) := hF 5 (hd { on := 5, ground := .guard } (by simp) rfl)
        have vk : alU n m s ca1 ca2 cp1 cp2 8 = gdW (alB n m 0) (.pointer (some ⟨s + 1, 1, none⟩)) := rfl
        cases hc : alB n m 0
        · simp only [hc, gdW_no, gdW_yes, Bool.false_and, Bool.true_and] at e5 vk
          refine wpOp_step rfl (fun K hK => ?_)
          go_simp
          exact hK _ _ (alI.next 8 hs kw hF (Keep.refl w) (by rw [vk]; simp [updV, e5]))
        · simp only [hc, gdW_no, gdW_yes, Bool.false_and, Bool.true_and] at e5 vk
          refine wpOp_step rfl (fun K hK => ?_)
          go_simp
          exact hK _ _ (alI.next 8 hs kw hF (Keep.refl w) (by rw [vk]; simp [updV, e5]))
      | 9, _ =>
        simp only [List.getElem?_toArray, List.getElem?_cons_succ, List.getElem?_cons_zero, Option.some.injEq] at ho
        subst ho
        have e8 : x 8 = gdW (alB n m 0) (.pointer (some ⟨s + 1, 1, none⟩)) := hF 8 (hd { on := 8, ground := .data } (by simp) rfl)
        have e5 : x 5 = .bool (alB n m 0) := hF 5 (hd { on := 5, ground := .guard } (by simp) rfl)
        have vk : alU n m s ca1 ca2 cp1 cp2 9 = gdW (alB n m 0) (.int .i64 m.vl) := rfl
        cases hc : alB n m 0
        · simp only [hc, gdW_no, gdW_yes, Bool.false_and, Bool.true_and] at e8 e5 vk
          refine wpOp_step rfl (fun K hK => ?_)
          go_simp
          exact hK _ _ (alI.next 9 hs kw hF (Keep.refl w) (by rw [vk]; simp [updV, e8, e5]))
        · simp only [hc, gdW_no, gdW_yes, Bool.false_and, Bool.true_and] at e8 e5 vk
          refine wpOp_step rfl (fun K hK => ?_)
          have cc := kw.cell z1
          go_simp
          exact hK _ _ (alI.next 9 hs kw hF (Keep.refl w) (by rw [vk]; simp [updV, e8, e5]))
      | 10, _ =>
        simp only [List.getElem?_toArray, List.getElem?_cons_succ, List.getElem?_cons_zero, Option.some.injEq] at ho
        subst ho
        have e7 : x 7 = gdW (alB n m 0) (.int .i64 n.vl) := hF 7 (hd { on := 7, ground := .data } (by simp) rfl)
        have e9 : x 9 = gdW (alB n m 0) (.int .i64 m.vl) := hF 9 (hd { on := 9, ground := .data } (by simp) rfl)
        have e5 : x 5 = .bool (alB n m 0) := hF 5 (hd { on := 5, ground := .guard } (by simp) rfl)
        have vk : alU n m s ca1 ca2 cp1 cp2 10 = gdW (alB n m 0) (.bool ((n.vl : Int) == (m.vl : Int))) := rfl
        cases hc : alB n m 0
        · simp only [hc, gdW_no, gdW_yes, Bool.false_and, Bool.true_and] at e7 e9 e5 vk
          refine wpOp_step rfl (fun K hK => ?_)
          go_simp
          exact hK _ _ (alI.next 10 hs kw hF (Keep.refl w) (by rw [vk]; simp [updV, e7, e9, e5]))
        · simp only [hc, gdW_no, gdW_yes, Bool.false_and, Bool.true_and] at e7 e9 e5 vk
          refine wpOp_step rfl (fun K hK => ?_)
          go_simp
          exact hK _ _ (alI.next 10 hs kw hF (Keep.refl w) (by rw [vk]; simp [updV, e7, e9, e5]))
      | 11, _ =>
        simp only [List.getElem?_toArray, List.getElem?_cons_succ, List.getElem?_cons_zero, Option.some.injEq] at ho
        subst ho
        have e5 : x 5 = (.bool (alB n m 0)) := hF 5 (hd { on := 5, ground := .data } (by simp) rfl)
        have e10 : x 10 = gdW (alB n m 0) (.bool ((n.vl : Int) == (m.vl : Int))) := hF 10 (hd { on := 10, ground := .data } (by simp) rfl)
        have vk : alU n m s ca1 ca2 cp1 cp2 11 = (.bool (alB n m 1)) := rfl
        have ac : alB n m 1 = (alB n m 0 && ((n.vl : Int) == (m.vl : Int))) := rfl
        cases hc : alB n m 0
        · simp only [hc, gdW_no, gdW_yes, Bool.false_and, Bool.true_and] at e5 e10 vk ac
          rw [ac] at vk
          refine wpOp_step rfl (fun K hK => ?_)
          go_simp
          exact hK _ _ (alI.next 11 hs kw hF (Keep.refl w) (by rw [vk]; simp [updV, e5, e10]))
        · simp only [hc, gdW_no, gdW_yes, Bool.false_and, Bool.true_and] at e5 e10 vk ac
          rw [ac] at vk
          refine wpOp_step rfl (fun K hK => ?_)
          go_simp
          exact hK _ _ (alI.next 11 hs kw hF (Keep.refl w) (by rw [vk]; simp [updV, e5, e10]))
      | 12, _ =>
        simp only [List.getElem?_toArray, List.getElem?_cons_succ, List.getElem?_cons_zero, Option.some.injEq] at ho
        subst ho
        have e11 : x 11 = (.bool (alB n m 1)) := hF 11 (hd { on := 11, ground := .data } (by simp) rfl)
        have vk : alU n m s ca1 ca2 cp1 cp2 12 = (.bool (alB n m 1)) := rfl
        refine wpOp_step rfl (fun K hK => ?_)
        go_simp
        exact hK _ _ (alI.next 12 hs kw hF (Keep.refl w) (by rw [vk]; simp [updV, e11]))
      | 13, _ =>
        simp only [List.getElem?_toArray, List.getElem?_cons_succ, List.getElem?_cons_zero, Option.some.injEq] at ho
        subst ho
        have e12 : x 12 = .bool (alB n m 1) := hF 12 (hd { on := 12, ground := .guard } (by simp) rfl)
        have vk : alU n m s ca1 ca2 cp1 cp2 13 = gdW (alB n m 1) (.pointer (some ⟨s, 2, none⟩)) := rfl
        cases hc : alB n m 1
        · simp only [hc, gdW_no, gdW_yes, Bool.false_and, Bool.true_and] at e12 vk
          refine wpOp_step rfl (fun K hK => ?_)
          go_simp
          exact hK _ _ (alI.next 13 hs kw hF (Keep.refl w) (by rw [vk]; simp [updV, e12]))
        · simp only [hc, gdW_no, gdW_yes, Bool.false_and, Bool.true_and] at e12 vk
          refine wpOp_step rfl (fun K hK => ?_)
          go_simp
          exact hK _ _ (alI.next 13 hs kw hF (Keep.refl w) (by rw [vk]; simp [updV, e12]))
      | 14, _ =>
        simp only [List.getElem?_toArray, List.getElem?_cons_succ, List.getElem?_cons_zero, Option.some.injEq] at ho
        subst ho
        have e13 : x 13 = gdW (alB n m 1) (.pointer (some ⟨s, 2, none⟩)) := hF 13 (hd { on := 13, ground := .data } (by simp) rfl)
        have e12 : x 12 = .bool (alB n m 1) := hF 12 (hd { on := 12, ground := .guard } (by simp) rfl)
        have vk : alU n m s ca1 ca2 cp1 cp2 14 = gdW (alB n m 1) (.int .i64 n.ft) := rfl
        cases hc : alB n m 1
        · simp only [hc, gdW_no, gdW_yes, Bool.false_and, Bool.true_and] at e13 e12 vk
          refine wpOp_step rfl (fun K hK => ?_)
          go_simp
          exact hK _ _ (alI.next 14 hs kw hF (Keep.refl w) (by rw [vk]; simp [updV, e13, e12]))
        · simp only [hc, gdW_no, gdW_yes, Bool.false_and, Bool.true_and] at e13 e12 vk
          refine wpOp_step rfl (fun K hK => ?_)
          have cc := kw.cell y2
          go_simp
          exact hK _ _ (alI.next 14 hs kw hF (Keep.refl w) (by rw [vk]; simp [updV, e13, e12]))
      | 15, _ =>
        simp only [List.getElem?_toArray, List.getElem?_cons_succ, List.getElem?_cons_zero, Option.some.injEq] at ho
        subst ho
        have e12 : x 12 = .bool (alB n m 1) := hF 12 (hd { on := 12, ground := .guard } (by simp) rfl)
        have vk : alU n m s ca1 ca2 cp1 cp2 15 = gdW (alB n m 1) (.pointer (some ⟨s + 1, 2, none⟩)) := rfl
        cases hc : alB n m 1
        · simp only [hc, gdW_no, gdW_yes, Bool.false_and, Bool.true_and] at e12 vk
          refine wpOp_step rfl (fun K hK => ?_)
          go_simp
          exact hK _ _ (alI.next 15 hs kw hF (Keep.refl w) (by rw [vk]; simp [updV, e12]))
        · simp only [hc, gdW_no, gdW_yes, Bool.false_and, Bool.true_and] at e12 vk
          refine wpOp_step rfl (fun K hK => ?_)
          go_simp
          exact hK _ _ (alI.next 15 hs kw hF (Keep.refl w) (by rw [vk]; simp [updV, e12]))
      | 16, _ =>
        simp only [List.getElem?_toArray, List.getElem?_cons_succ, List.getElem?_cons_zero, Option.some.injEq] at ho
        subst ho
        have e15 : x 15 = gdW (alB n m 1) (.pointer (some ⟨s + 1, 2, none⟩)) := hF 15 (hd { on := 15, ground := .data } (by simp) rfl)
        have e12 : x 12 = .bool (alB n m 1) := hF 12 (hd { on := 12, ground := .guard } (by simp) rfl)
        have vk : alU n m s ca1 ca2 cp1 cp2 16 = gdW (alB n m 1) (.int .i64 m.ft) := rfl
        cases hc : alB n m 1
        · simp only [hc, gdW_no, gdW_yes, Bool.false_and, Bool.true_and] at e15 e12 vk
          refine wpOp_step rfl (fun K hK => ?_)
          go_simp
          exact hK _ _ (alI.next 16 hs kw hF (Keep.refl w) (by rw [vk]; simp [updV, e15, e12]))
        · simp only [hc, gdW_no, gdW_yes, Bool.false_and, Bool.true_and] at e15 e12 vk
          refine wpOp_step rfl (fun K hK => ?_)
          have cc := kw.cell z2
          go_simp
          exact hK _ _ (alI.next 16 hs kw hF (Keep.refl w) (by rw [vk]; simp [updV, e15, e12]))
      | 17, _ =>
        simp only [List.getElem?_toArray, List.getElem?_cons_succ, List.getElem?_cons_zero, Option.some.injEq] at ho
        subst ho
        have e14 : x 14 = gdW (alB n m 1) (.int .i64 n.ft) := hF 14 (hd { on := 14, ground := .data } (by simp) rfl)
        have e16 : x 16 = gdW (alB n m 1) (.int .i64 m.ft) := hF 16 (hd { on := 16, ground := .data } (by simp) rfl)
        have e12 : x 12 = .bool (alB n m 1) := hF 12 (hd { on := 12, ground := .guard } (by simp) rfl)
        have vk : alU n m s ca1 ca2 cp1 cp2 17 = gdW (alB n m 1) (.bool ((n.ft : Int) == (m.ft : Int))) := rfl
        cases hc : alB n m 1
        · simp only [hc, gdW_no, gdW_yes, Bool.false_and, Bool.true_and] at e14 e16 e12 vk
          refine wpOp_step rfl (fun K hK => ?_)
          go_simp
          exact hK _ _ (alI.next 17 hs kw hF (Keep.refl w) (by rw [vk]; simp [updV, e14, e16, e12]))
        · simp only [hc, gdW_no, gdW_yes, Bool.false_and, Bool.true_and] at e14 e16 e12 vk
          refine wpOp_step rfl (fun K hK => ?_)
          go_simp
          exact hK _ _ (alI.next 17 hs kw hF (Keep.refl w) (by rw [vk]; simp [updV, e14, e16, e12]))
      | 18, _ =>
        simp only [List.getElem?_toArray, List.getElem?_cons_succ, List.getElem?_cons_zero, Option.some.injEq] at ho
        subst ho
        have e12 : x 12 = (.bool (alB n m 1)) := hF 12 (hd { on := 12, ground := .data } (by simp) rfl)
        have e17 : x 17 = gdW (alB n m 1) (.bool ((n.ft : Int) == (m.ft : Int))) := hF 17 (hd { on := 17, ground := .data } (by simp) rfl)
        have vk : alU n m s ca1 ca2 cp1 cp2 18 = (.bool (alB n m 2)) := rfl
        have ac : alB n m 2 = (alB n m 1 && ((n.ft : Int) == (m.ft : Int))) := rfl
        cases hc : alB n m 1
        · simp only [hc, gdW_no, gdW_yes, Bool.false_and, Bool.true_and] at e12 e17 vk ac
          rw [ac] at vk
          refine wpOp_step rfl (fun K hK => ?_)
          go_simp
          exact hK _ _ (alI.next 18 hs kw hF (Keep.refl w) (by rw [vk]; simp [updV, e12, e17]))
        · simp only [hc, gdW_no, gdW_yes, Bool.false_and, Bool.true_and] at e12 e17 vk ac
          rw [ac] at vk
          refine wpOp_step rfl (fun K hK => ?_)
          go_simp
          exact hK _ _ (alI.next 18 hs kw hF (Keep.refl w) (by rw [vk]; simp [updV, e12, e17]))
      | 19, _ =>
        simp only [List.getElem?_toArray, List.getElem?_cons_succ, List.getElem?_cons_zero, Option.some.injEq] at ho
        subst ho
        have e18 : x 18 = (.bool (alB n m 2)) := hF 18 (hd { on := 18, ground := .data } (by simp) rfl)
        have vk : alU n m s ca1 ca2 cp1 cp2 19 = (.bool (alB n m 2)) := rfl
        refine wpOp_step rfl (fun K hK => ?_)
        go_simp
        exact hK _ _ (alI.next 19 hs kw hF (Keep.refl w) (by rw [vk]; simp [updV, e18]))
      | 20, _ =>
        simp only [List.getElem?_toArray, List.getElem?_cons_succ, List.getElem?_cons_zero, Option.some.injEq] at ho
        subst ho
        have e19 : x 19 = .bool (alB n m 2) := hF 19 (hd { on := 19, ground := .guard } (by simp) rfl)
        have vk : alU n m s ca1 ca2 cp1 cp2 20 = gdW (alB n m 2) (.pointer (some ⟨s, 3, none⟩)) := rfl
        cases hc : alB n m 2
        · simp only [hc, gdW_no, gdW_yes, Bool.false_and, Bool.true_and] at e19 vk
          refine wpOp_step rfl (fun K hK => ?_)
          go_simp
          exact hK _ _ (alI.next 20 hs kw hF (Keep.refl w) (by rw [vk]; simp [updV, e19]))
        · simp only [hc, gdW_no, gdW_yes, Bool.false_and, Bool.true_and] at e19 vk
          refine wpOp_step rfl (fun K hK => ?_)
          go_simp
          exact hK _ _ (alI.next 20 hs kw hF (Keep.refl w) (by rw [vk]; simp [updV, e19]))
      | 21, _ =>
        simp only [List.getElem?_toArray, List.getElem?_cons_succ, List.getElem?_cons_zero, Option.some.injEq] at ho
        subst ho
        have e20 : x 20 = gdW (alB n m 2) (.pointer (some ⟨s, 3, none⟩)) := hF 20 (hd { on := 20, ground := .data } (by simp) rfl)
        have e19 : x 19 = .bool (alB n m 2) := hF 19 (hd { on := 19, ground := .guard } (by simp) rfl)
        have vk : alU n m s ca1 ca2 cp1 cp2 21 = gdW (alB n m 2) (.float .f64 n.th) := rfl
        cases hc : alB n m 2
        · simp only [hc, gdW_no, gdW_yes, Bool.false_and, Bool.true_and] at e20 e19 vk
          refine wpOp_step rfl (fun K hK => ?_)
          go_simp
          exact hK _ _ (alI.next 21 hs kw hF (Keep.refl w) (by rw [vk]; simp [updV, e20, e19]))
        · simp only [hc, gdW_no, gdW_yes, Bool.false_and, Bool.true_and] at e20 e19 vk
          refine wpOp_step rfl (fun K hK => ?_)
          have cc := kw.cell y3
          go_simp
          exact hK _ _ (alI.next 21 hs kw hF (Keep.refl w) (by rw [vk]; simp [updV, e20, e19]))
      | 22, _ =>
        simp only [List.getElem?_toArray, List.getElem?_cons_succ, List.getElem?_cons_zero, Option.some.injEq] at ho
        subst ho
        have e21 : x 21 = gdW (alB n m 2) (.float .f64 n.th) := hF 21 (hd { on := 21, ground := .data } (by simp) rfl)
        have e19 : x 19 = .bool (alB n m 2) := hF 19 (hd { on := 19, ground := .guard } (by simp) rfl)
        have vk : alU n m s ca1 ca2 cp1 cp2 22 = gdW (alB n m 2) (.int .u64 n.th) := rfl
        cases hc : alB n m 2
        · simp only [hc, gdW_no, gdW_yes, Bool.false_and, Bool.true_and] at e21 e19 vk
          refine wpOp_step rfl (fun K hK => ?_)
          go_simp
          exact hK _ _ (alI.next 22 hs kw hF (Keep.refl w) (by rw [vk]; simp [updV, e21, e19]))
        · simp only [hc, gdW_no, gdW_yes, Bool.false_and, Bool.true_and] at e21 e19 vk
          refine wpOp_step rfl (fun K hK => ?_)
          have hb := f64bits n.th
          go_simp
          exact hK _ _ (alI.next 22 hs kw hF (Keep.refl w) (by rw [vk]; simp [updV, e21, e19]))
      | 23, _ =>
        simp only [List.getElem?_toArray, List.getElem?_cons_succ, List.getElem?_cons_zero, Option.some.injEq] at ho
        subst ho
        have e19 : x 19 = .bool (alB n m 2) := hF 19 (hd { on := 19, ground := .guard } (by simp) rfl)
        have vk : alU n m s ca1 ca2 cp1 cp2 23 = gdW (alB n m 2) (.pointer (some ⟨s + 1, 3, none⟩)) := rfl
        cases hc : alB n m 2
        · simp only [hc, gdW_no, gdW_yes, Bool.false_and, Bool.true_and] at e19 vk
          refine wpOp_step rfl (fun K hK => ?_)
          go_simp
          exact hK _ _ (alI.next 23 hs kw hF (Keep.refl w) (by rw [vk]; simp [updV, e19]))
        · simp only [hc, gdW_no, gdW_yes, Bool.false_and, Bool.true_and] at e19 vk
          refine wpOp_step rfl (fun K hK => ?_)
          go_simp
          exact hK _ _ (alI.next 23 hs kw hF (Keep.refl w) (by rw [vk]; simp [updV, e19]))
      | 24, _ =>
        simp only [List.getElem?_toArray, List.getElem?_cons_succ, List.getElem?_cons_zero, Option.some.injEq] at ho
        subst ho
        have e23 : x 23 = gdW (alB n m 2) (.pointer (some ⟨s + 1, 3, none⟩)) := hF 23 (hd { on := 23, ground := .data } (by simp) rfl)
        have e19 : x 19 = .bool (alB n m 2) := hF 19 (hd { on := 19, ground := .guard } (by simp) rfl)
        have vk : alU n m s ca1 ca2 cp1 cp2 24 = gdW (alB n m 2) (.float .f64 m.th) := rfl
        cases hc : alB n m 2
        · simp only [hc, gdW_no, gdW_yes, Bool.false_and, Bool.true_and] at e23 e19 vk
          refine wpOp_step rfl (fun K hK => ?_)
          go_simp
          exact hK _ _ (alI.next 24 hs kw hF (Keep.refl w) (by rw [vk]; simp [updV, e23, e19]))
        · simp only [hc, gdW_no, gdW_yes, Bool.false_and, Bool.true_and] at e23 e19 vk
          refine wpOp_step rfl (fun K hK => ?_)
          have cc := kw.cell z3
          go_simp
          exact hK _ _ (alI.next 24 hs kw hF (Keep.refl w) (by rw [vk]; simp [updV, e23, e19]))
      | 25, _ =>
        simp only [List.getElem?_toArray, List.getElem?_cons_succ, List.getElem?_cons_zero, Option.some.injEq] at ho
        subst ho
        have e24 : x 24 = gdW (alB n m 2) (.float .f64 m.th) := hF 24 (hd { on := 24, ground := .data } (by simp) rfl)
        have e19 : x 19 = .bool (alB n m 2) := hF 19 (hd { on := 19, ground := .guard } (by simp) rfl)
        have vk : alU n m s ca1 ca2 cp1 cp2 25 = gdW (alB n m 2) (.int .u64 m.th) := rfl
        cases hc : alB n m 2
        · simp only [hc, gdW_no, gdW_yes, Bool.false_and, Bool.true_and] at e24 e19 vk
          refine wpOp_step rfl (fun K hK => ?_)
          go_simp
          exact hK _ _ (alI.next 25 hs kw hF (Keep.refl w) (by rw [vk]; simp [updV, e24, e19]))
        · simp only [hc, gdW_no, gdW_yes, Bool.false_and, Bool.true_and] at e24 e19 vk
          refine wpOp_step rfl (fun K hK => ?_)
          have hb := f64bits m.th
          go_simp
          exact hK _ _ (alI.next 25 hs kw hF (Keep.refl w) (by rw [vk]; simp [updV, e24, e19]))
      | 26, _ =>
        simp only [List.getElem?_toArray, List.getElem?_cons_succ, List.getElem?_cons_zero, Option.some.injEq] at ho
        subst ho
        have e22 : x 22 = gdW (alB n m 2) (.int .u64 n.th) := hF 22 (hd { on := 22, ground := .data } (by simp) rfl)
        have e25 : x 25 = gdW (alB n m 2) (.int .u64 m.th) := hF 25 (hd { on := 25, ground := .data } (by simp) rfl)
        have e19 : x 19 = .bool (alB n m 2) := hF 19 (hd { on := 19, ground := .guard } (by simp) rfl)
        have vk : alU n m s ca1 ca2 cp1 cp2 26 = gdW (alB n m 2) (.bool ((n.th : Int) == (m.th : Int))) := rfl
        cases hc : alB n m 2
        · simp only [hc, gdW_no, gdW_yes, Bool.false_and, Bool.true_and] at e22 e25 e19 vk
          refine wpOp_step rfl (fun K hK => ?_)
          go_simp
          exact hK _ _ (alI.next 26 hs kw hF (Keep.refl w) (by rw [vk]; simp [updV, e22, e25, e19]))
        · simp only [hc, gdW_no, gdW_yes, Bool.false_and, Bool.true_and] at e22 e25 e19 vk
          refine wpOp_step rfl (fun K hK => ?_)
          go_simp
          exact hK _ _ (alI.next 26 hs kw hF (Keep.refl w) (by rw [vk]; simp [updV, e22, e25, e19]))
      | 27, _ =>
        simp only [List.getElem?_toArray, List.getElem?_cons_succ, List.getElem?_cons_zero, Option.some.injEq] at ho
        subst ho
        have e19 : x 19 = (.bool (alB n m 2)) := hF 19 (hd { on := 19, ground := .data } (by simp) rfl)
        have e26 : x 26 = gdW (alB n m 2) (.bool ((n.th : Int) == (m.th : Int))) := hF 26 (hd { on := 26, ground := .data } (by simp) rfl)
        have vk : alU n m s ca1 ca2 cp1 cp2 27 = (.bool (alB n m 3)) := rfl
        have ac : alB n m 3 = (alB n m 2 && ((n.th : Int) == (m.th : Int))) := rfl
        cases hc : alB n m 2
        · simp only [hc, gdW_no, gdW_yes, Bool.false_and, Bool.true_and] at e19 e26 vk ac
          rw [ac] at vk
          refine wpOp_step rfl (fun K hK => ?_)
          go_simp
          exact hK _ _ (alI.next 27 hs kw hF (Keep.refl w) (by rw [vk]; simp [updV, e19, e26]))
        · simp only [hc, gdW_no, gdW_yes, Bool.false_and, Bool.true_and] at e19 e26 vk ac
          rw [ac] at vk
          refine wpOp_step rfl (fun K hK => ?_)
          go_simp
          exact hK _ _ (alI.next 27 hs kw hF (Keep.refl w) (by rw [vk]; simp [updV, e19, e26]))
      | 28, _ =>
        simp only [List.getElem?_toArray, List.getElem?_cons_succ, List.getElem?_cons_zero, Option.some.injEq] at ho
        subst ho
        have e27 : x 27 = (.bool (alB n m 3)) := hF 27 (hd { on := 27, ground := .data } (by simp) rfl)
        have vk : alU n m s ca1 ca2 cp1 cp2 28 = (.bool (alB n m 3)) := rfl
        refine wpOp_step rfl (fun K hK => ?_)
        go_simp
        exact hK _ _ (alI.next 28 hs kw hF (Keep.refl w) (by rw [vk]; simp [updV, e27]))
      | 29, _ =>
        simp only [List.getElem?_toArray, List.getElem?_cons_succ, List.getElem?_cons_zero, Option.some.injEq] at ho
        subst ho
        have e28 : x 28 = .bool (alB n m 3) := hF 28 (hd { on := 28, ground := .guard } (by simp) rfl)
        have vk : alU n m s ca1 ca2 cp1 cp2 29 = gdW (alB n m 3) (.pointer (some ⟨s, 4, none⟩)) := rfl
        cases hc : alB n m 3
        · simp only [hc, gdW_no, gdW_yes, Bool.false_and, Bool.true_and] at e28 vk
          refine wpOp_step rfl (fun K hK => ?_)
          go_simp
          exact hK _ _ (alI.next 29 hs kw hF (Keep.refl w) (by rw [vk]; simp [updV, e28]))
        · simp only [hc, gdW_no, gdW_yes, Bool.false_and, Bool.true_and] at e28 vk
          refine wpOp_step rfl (fun K hK => ?_)
          go_simp
          exact hK _ _ (alI.next 29 hs kw hF (Keep.refl w) (by rw [vk]; simp [updV, e28]))
      | 30, _ =>
        simp only [List.getElem?_toArray, List.getElem?_cons_succ, List.getElem?_cons_zero, Option.some.injEq] at ho
        subst ho
        have e29 : x 29 = gdW (alB n m 3) (.pointer (some ⟨s, 4, none⟩)) := hF 29 (hd { on := 29, ground := .data } (by simp) rfl)
        have e28 : x 28 = .bool (alB n m 3) := hF 28 (hd { on := 28, ground := .guard } (by simp) rfl)
        have vk : alU n m s ca1 ca2 cp1 cp2 30 = gdW (alB n m 3) (.slice ca1 n.cs.length cp1) := rfl
        cases hc : alB n m 3
        · simp only [hc, gdW_no, gdW_yes, Bool.false_and, Bool.true_and] at e29 e28 vk
          refine wpOp_step rfl (fun K hK => ?_)
          go_simp
          exact hK _ _ (alI.next 30 hs kw hF (Keep.refl w) (by rw [vk]; simp [updV, e29, e28]))
        · simp only [hc, gdW_no, gdW_yes, Bool.false_and, Bool.true_and] at e29 e28 vk
          refine wpOp_step rfl (fun K hK => ?_)
          have cc := kw.cell y4
          go_simp
          exact hK _ _ (alI.next 30 hs kw hF (Keep.refl w) (by rw [vk]; simp [updV, e29, e28]))
      | 31, _ =>
        simp only [List.getElem?_toArray, List.getElem?_cons_succ, List.getElem?_cons_zero, Option.some.injEq] at ho
        subst ho
        have e28 : x 28 = .bool (alB n m 3) := hF 28 (hd { on := 28, ground := .guard } (by simp) rfl)
        have vk : alU n m s ca1 ca2 cp1 cp2 31 = gdW (alB n m 3) (.pointer (some ⟨s + 1, 4, none⟩)) := rfl
        cases hc : alB n m 3
        · simp only [hc, gdW_no, gdW_yes, Bool.false_and, Bool.true_and] at e28 vk
          refine wpOp_step rfl (fun K hK => ?_)
          go_simp
          exact hK _ _ (alI.next 31 hs kw hF (Keep.refl w) (by rw [vk]; simp [updV, e28]))
        · simp only [hc, gdW_no, gdW_yes, Bool.false_and, Bool.true_and] at e28 vk
          refine wpOp_step rfl (fun K hK => ?_)
          go_simp
          exact hK _ _ (alI.next 31 hs kw hF (Keep.refl w) (by rw [vk]; simp [updV, e28]))
      | 32, _ =>
        simp only [List.getElem?_toArray, List.getElem?_cons_succ, List.getElem?_cons_zero, Option.some.injEq] at ho
        subst ho
        have e31 : x 31 = gdW (alB n m 3) (.pointer (some ⟨s + 1, 4, none⟩)) := hF 31 (hd { on := 31, ground := .data } (by simp) rfl)
        have e28 : x 28 = .bool (alB n m 3) := hF 28 (hd { on := 28, ground := .guard } (by simp) rfl)
        have vk : alU n m s ca1 ca2 cp1 cp2 32 = gdW (alB n m 3) (.slice ca2 m.cs.length cp2) := rfl
        cases hc : alB n m 3
        · simp only [hc, gdW_no, gdW_yes, Bool.false_and, Bool.true_and] at e31 e28 vk
          refine wpOp_step rfl (fun K hK => ?_)
          go_simp
          exact hK _ _ (alI.next 32 hs kw hF (Keep.refl w) (by rw [vk]; simp [updV, e31, e28]))
        · simp only [hc, gdW_no, gdW_yes, Bool.false_and, Bool.true_and] at e31 e28 vk
          refine wpOp_step rfl (fun K hK => ?_)
          have cc := kw.cell z4
          go_simp
          exact hK _ _ (alI.next 32 hs kw hF (Keep.refl w) (by rw [vk]; simp [updV, e31, e28]))
      | 33, _ =>
        simp only [List.getElem?_toArray, List.getElem?_cons_succ, List.getElem?_cons_zero, Option.some.injEq] at ho
        subst ho
        have e30 : x 30 = gdW (alB n m 3) (.slice ca1 n.cs.length cp1) := hF 30 (hd { on := 30, ground := .data } (by simp) rfl)
        have e32 : x 32 = gdW (alB n m 3) (.slice ca2 m.cs.length cp2) := hF 32 (hd { on := 32, ground := .data } (by simp) rfl)
        have e28 : x 28 = .bool (alB n m 3) := hF 28 (hd { on := 28, ground := .guard } (by simp) rfl)
        have vk : alU n m s ca1 ca2 cp1 cp2 33 = gdW (alB n m 3) (.bool (decide (n.cs = m.cs))) := rfl
        cases hc : alB n m 3
        · simp only [hc, gdW_no, gdW_yes, Bool.false_and, Bool.true_and] at e30 e32 e28 vk
          refine wpOp_step rfl (fun K hK => ?_)
          go_simp
          exact hK _ _ (alI.next 33 hs kw hF (Keep.refl w) (by rw [vk]; simp [updV, e30, e32, e28]))
        · simp only [hc, gdW_no, gdW_yes, Bool.false_and, Bool.true_and] at e30 e32 e28 vk
          refine wpOp_step rfl (fun K hK => ?_)
          go_simp
          refine (hI _ kw).mono ?_
          rintro e wS ⟨rfl, kS⟩
          exact hK _ _ (alI.next 33 hs kw hF kS (by rw [vk]; simp [updV, e30, e32, e28]))
      | 34, _ =>
        simp only [List.getElem?_toArray, List.getElem?_cons_succ, List.getElem?_cons_zero, Option.some.injEq] at ho
        subst ho
        have e28 : x 28 = (.bool (alB n m 3)) := hF 28 (hd { on := 28, ground := .data } (by simp) rfl)
        have e33 : x 33 = gdW (alB n m 3) (.bool (decide (n.cs = m.cs))) := hF 33 (hd { on := 33, ground := .data } (by simp) rfl)
        have vk : alU n m s ca1 ca2 cp1 cp2 34 = (.bool (alB n m 4)) := rfl
        have ac : alB n m 4 = (alB n m 3 && (decide (n.cs = m.cs))) := rfl
        cases hc : alB n m 3
        · simp only [hc, gdW_no, gdW_yes, Bool.false_and, Bool.true_and] at e28 e33 vk ac
          rw [ac] at vk
          refine wpOp_step rfl (fun K hK => ?_)
          go_simp
          exact hK _ _ (alI.next 34 hs kw hF (Keep.refl w) (by rw [vk]; simp [updV, e28, e33]))
        · simp only [hc, gdW_no, gdW_yes, Bool.false_and, Bool.true_and] at e28 e33 vk ac
          rw [ac] at vk
          refine wpOp_step rfl (fun K hK => ?_)
          go_simp
          exact hK _ _ (alI.next 34 hs kw hF (Keep.refl w) (by rw [vk]; simp [updV, e28, e33]))
      | 35, _ =>
        simp only [List.getElem?_toArray, List.getElem?_cons_succ, List.getElem?_cons_zero, Option.some.injEq] at ho
        subst ho
        have e34 : x 34 = (.bool (alB n m 4)) := hF 34 (hd { on := 34, ground := .data } (by simp) rfl)
        have vk : alU n m s ca1 ca2 cp1 cp2 35 = (.bool (alB n m 4)) := rfl
        refine wpOp_step rfl (fun K hK => ?_)
        go_simp
        exact hK _ _ (alI.next 35 hs kw hF (Keep.refl w) (by rw [vk]; simp [updV, e34]))
      | 36, _ =>
        simp only [List.getElem?_toArray, List.getElem?_cons_succ, List.getElem?_cons_zero, Option.some.injEq] at ho
        subst ho
        have e35 : x 35 = .bool (alB n m 4) := hF 35 (hd { on := 35, ground := .guard } (by simp) rfl)
        have vk : alU n m s ca1 ca2 cp1 cp2 36 = gdW (alB n m 4) (.pointer (some ⟨s, 5, none⟩)) := rfl
        cases hc : alB n m 4
        · simp only [hc, gdW_no, gdW_yes, Bool.false_and, Bool.true_and] at e35 vk
          refine wpOp_step rfl (fun K hK => ?_)
          go_simp
          exact hK _ _ (alI.next 36 hs kw hF (Keep.refl w) (by rw [vk]; simp [updV, e35]))
        · simp only [hc, gdW_no, gdW_yes, Bool.false_and, Bool.true_and] at e35 vk
          refine wpOp_step rfl (fun K hK => ?_)
          go_simp
          exact hK _ _ (alI.next 36 hs kw hF (Keep.refl w) (by rw [vk]; simp [updV, e35]))
      | 37, _ =>
        simp only [List.getElem?_toArray, List.getElem?_cons_succ, List.getElem?_cons_zero, Option.some.injEq] at ho
        subst ho
        have e36 : x 36 = gdW (alB n m 4) (.pointer (some ⟨s, 5, none⟩)) := hF 36 (hd { on := 36, ground := .data } (by simp) rfl)
        have e35 : x 35 = .bool (alB n m 4) := hF 35 (hd { on := 35, ground := .guard } (by simp) rfl)
        have vk : alU n m s ca1 ca2 cp1 cp2 37 = gdW (alB n m 4) (.int .u8 n.ms) := rfl
        cases hc : alB n m 4
        · simp only [hc, gdW_no, gdW_yes, Bool.false_and, Bool.true_and] at e36 e35 vk
          refine wpOp_step rfl (fun K hK => ?_)
          go_simp
          exact hK _ _ (alI.next 37 hs kw hF (Keep.refl w) (by rw [vk]; simp [updV, e36, e35]))
        · simp only [hc, gdW_no, gdW_yes, Bool.false_and, Bool.true_and] at e36 e35 vk
          refine wpOp_step rfl (fun K hK => ?_)
          have cc := kw.cell y5
          go_simp
          exact hK _ _ (alI.next 37 hs kw hF (Keep.refl w) (by rw [vk]; simp [updV, e36, e35]))
      | 38, _ =>
        simp only [List.getElem?_toArray, List.getElem?_cons_succ, List.getElem?_cons_zero, Option.some.injEq] at ho
        subst ho
        have e35 : x 35 = .bool (alB n m 4) := hF 35 (hd { on := 35, ground := .guard } (by simp) rfl)
        have vk : alU n m s ca1 ca2 cp1 cp2 38 = gdW (alB n m 4) (.pointer (some ⟨s + 1, 5, none⟩)) := rfl
        cases hc : alB n m 4
        · simp only [hc, gdW_no, gdW_yes, Bool.false_and, Bool.true_and] at e35 vk
          refine wpOp_step rfl (fun K hK => ?_)
          go_simp
          exact hK _ _ (alI.next 38 hs kw hF (Keep.refl w) (by rw [vk]; simp [updV, e35]))
        · simp only [hc, gdW_no, gdW_yes, Bool.false_and, Bool.true_and] at e35 vk
          refine wpOp_step rfl (fun K hK => ?_)
          go_simp
          exact hK _ _ (alI.next 38 hs kw hF (Keep.refl w) (by rw [vk]; simp [updV, e35]))
      | 39, _ =>
        simp only [List.getElem?_toArray, List.getElem?_cons_succ, List.getElem?_cons_zero, Option.some.injEq] at ho
        subst ho
        have e38 : x 38 = gdW (alB n m 4) (.pointer (some ⟨s + 1, 5, none⟩)) := hF 38 (hd { on := 38, ground := .data } (by simp) rfl)
        have e35 : x 35 = .bool (alB n m 4) := hF 35 (hd { on := 35, ground := .guard } (by simp) rfl)
        have vk : alU n m s ca1 ca2 cp1 cp2 39 = gdW (alB n m 4) (.int .u8 m.ms) := rfl
        cases hc : alB n m 4
        · simp only [hc, gdW_no, gdW_yes, Bool.false_and, Bool.true_and] at e38 e35 vk
          refine wpOp_step rfl (fun K hK => ?_)
          go_simp
          exact hK _ _ (alI.next 39 hs kw hF (Keep.refl w) (by rw [vk]; simp [updV, e38, e35]))
        · simp only [hc, gdW_no, gdW_yes, Bool.false_and, Bool.true_and] at e38 e35 vk
          refine wpOp_step rfl (fun K hK => ?_)
          have cc := kw.cell z5
          go_simp
          exact hK _ _ (alI.next 39 hs kw hF (Keep.refl w) (by rw [vk]; simp [updV, e38, e35]))
      | 40, _ =>
        simp only [List.getElem?_toArray, List.getElem?_cons_succ, List.getElem?_cons_zero, Option.some.injEq] at ho
        subst ho
        have e37 : x 37 = gdW (alB n m 4) (.int .u8 n.ms) := hF 37 (hd { on := 37, ground := .data } (by simp) rfl)
        have e39 : x 39 = gdW (alB n m 4) (.int .u8 m.ms) := hF 39 (hd { on := 39, ground := .data } (by simp) rfl)
        have e35 : x 35 = .bool (alB n m 4) := hF 35 (hd { on := 35, ground := .guard } (by simp) rfl)
        have vk : alU n m s ca1 ca2 cp1 cp2 40 = gdW (alB n m 4) (.bool ((n.ms : Int) == (m.ms : Int))) := rfl
        cases hc : alB n m 4
        · simp only [hc, gdW_no, gdW_yes, Bool.false_and, Bool.true_and] at e37 e39 e35 vk
          refine wpOp_step rfl (fun K hK => ?_)
          go_simp
          exact hK _ _ (alI.next 40 hs kw hF (Keep.refl w) (by rw [vk]; simp [updV, e37, e39, e35]))
        · simp only [hc, gdW_no, gdW_yes, Bool.false_and, Bool.true_and] at e37 e39 e35 vk
          refine wpOp_step rfl (fun K hK => ?_)
          go_simp
          exact hK _ _ (alI.next 40 hs kw hF (Keep.refl w) (by rw [vk]; simp [updV, e37, e39, e35]))
      | 41, _ =>
        simp only [List.getElem?_toArray, List.getElem?_cons_succ, List.getElem?_cons_zero, Option.some.injEq] at ho
        subst ho
        have e35 : x 35 = (.bool (alB n m 4)) := hF 35 (hd { on := 35, ground := .data } (by simp) rfl)
        have e40 : x 40 = gdW (alB n m 4) (.bool ((n.ms : Int) == (m.ms : Int))) := hF 40 (hd { on := 40, ground := .data } (by simp) rfl)
        have vk : alU n m s ca1 ca2 cp1 cp2 41 = (.bool (alB n m 5)) := rfl
        have ac : alB n m 5 = (alB n m 4 && ((n.ms : Int) == (m.ms : Int))) := rfl
        cases hc : alB n m 4
        · simp only [hc, gdW_no, gdW_yes, Bool.false_and, Bool.true_and] at e35 e40 vk ac
          rw [ac] at vk
          refine wpOp_step rfl (fun K hK => ?_)
          go_simp
          exact hK _ _ (alI.next 41 hs kw hF (Keep.refl w) (by rw [vk]; simp [updV, e35, e40]))
        · simp only [hc, gdW_no, gdW_yes, Bool.false_and, Bool.true_and] at e35 e40 vk ac
          rw [ac] at vk
          refine wpOp_step rfl (fun K hK => ?_)
          go_simp
          exact hK _ _ (alI.next 41 hs kw hF (Keep.refl w) (by rw [vk]; simp [updV, e35, e40]))
      | 42, _ =>
        simp only [List.getElem?_toArray, List.getElem?_cons_succ, List.getElem?_cons_zero, Option.some.injEq] at ho
        subst ho
        have e41 : x 41 = (.bool (alB n m 5)) := hF 41 (hd { on := 41, ground := .data } (by simp) rfl)
        have vk : alU n m s ca1 ca2 cp1 cp2 42 = (.bool (alB n m 5)) := rfl
        refine wpOp_step rfl (fun K hK => ?_)
        go_simp
        exact hK _ _ (alI.next 42 hs kw hF (Keep.refl w) (by rw [vk]; simp [updV, e41]))
      | 43, _ =>
        simp only [List.getElem?_toArray, List.getElem?_cons_succ, List.getElem?_cons_zero, Option.some.injEq] at ho
        subst ho
        have e42 : x 42 = .bool (alB n m 5) := hF 42 (hd { on := 42, ground := .guard } (by simp) rfl)
        have vk : alU n m s ca1 ca2 cp1 cp2 43 = gdW (alB n m 5) (.pointer (some ⟨s, 6, none⟩)) := rfl
        cases hc : alB n m 5
        · simp only [hc, gdW_no, gdW_yes, Bool.false_and, Bool.true_and] at e42 vk
          refine wpOp_step rfl (fun K hK => ?_)
          go_simp
          exact hK _ _ (alI.next 43 hs kw hF (Keep.refl w) (by rw [vk]; simp [updV, e42]))
        · simp only [hc, gdW_no, gdW_yes, Bool.false_and, Bool.true_and] at e42 vk
          refine wpOp_step rfl (fun K hK => ?_)
          go_simp
          exact hK _ _ (alI.next 43 hs kw hF (Keep.refl w) (by rw [vk]; simp [updV, e42]))
      | 44, _ =>
        simp only [List.getElem?_toArray, List.getElem?_cons_succ, List.getElem?_cons_zero, Option.some.injEq] at ho
        subst ho
        have e43 : x 43 = gdW (alB n m 5) (.pointer (some ⟨s, 6, none⟩)) := hF 43 (hd { on := 43, ground := .data } (by simp) rfl)
        have e42 : x 42 = .bool (alB n m 5) := hF 42 (hd { on := 42, ground := .guard } (by simp) rfl)
        have vk : alU n m s ca1 ca2 cp1 cp2 44 = gdW (alB n m 5) (.int .i64 n.lf) := rfl
        cases hc : alB n m 5
        · simp only [hc, gdW_no, gdW_yes, Bool.false_and, Bool.true_and] at e43 e42 vk
          refine wpOp_step rfl (fun K hK => ?_)
          go_simp
          exact hK _ _ (alI.next 44 hs kw hF (Keep.refl w) (by rw [vk]; simp [updV, e43, e42]))
        · simp only [hc, gdW_no, gdW_yes, Bool.false_and, Bool.true_and] at e43 e42 vk
          refine wpOp_step rfl (fun K hK => ?_)
          have cc := kw.cell y6
          go_simp
          exact hK _ _ (alI.next 44 hs kw hF (Keep.refl w) (by rw [vk]; simp [updV, e43, e42]))
      | 45, _ =>
        simp only [List.getElem?_toArray, List.getElem?_cons_succ, List.getElem?_cons_zero, Option.some.injEq] at ho
        subst ho
        have e42 : x 42 = .bool (alB n m 5) := hF 42 (hd { on := 42, ground := .guard } (by simp) rfl)
        have vk : alU n m s ca1 ca2 cp1 cp2 45 = gdW (alB n m 5) (.pointer (some ⟨s + 1, 6, none⟩)) := rfl
        cases hc : alB n m 5
        · simp only [hc, gdW_no, gdW_yes, Bool.false_and, Bool.true_and] at e42 vk
          refine wpOp_step rfl (fun K hK => ?_)
          go_simp
          exact hK _ _ (alI.next 45 hs kw hF (Keep.refl w) (by rw [vk]; simp [updV, e42]))
        · simp only [hc, gdW_no, gdW_yes, Bool.false_and, Bool.true_and] at e42 vk
          refine wpOp_step rfl (fun K hK => ?_)
          go_simp
          exact hK _ _ (alI.next 45 hs kw hF (Keep.refl w) (by rw [vk]; simp [updV, e42]))
      | 46, _ =>
        simp only [List.getElem?_toArray, List.getElem?_cons_succ, List.getElem?_cons_zero, Option.some.injEq] at ho
        subst ho
        have e45 : x 45 = gdW (alB n m 5) (.pointer (some ⟨s + 1, 6, none⟩)) := hF 45 (hd { on := 45, ground := .data } (by simp) rfl)
        have e42 : x 42 = .bool (alB n m 5) := hF 42 (hd { on := 42, ground := .guard } (by simp) rfl)
        have vk : alU n m s ca1 ca2 cp1 cp2 46 = gdW (alB n m 5) (.int .i64 m.lf) := rfl
        cases hc : alB n m 5
        · simp only [hc, gdW_no, gdW_yes, Bool.false_and, Bool.true_and] at e45 e42 vk
          refine wpOp_step rfl (fun K hK => ?_)
          go_simp
          exact hK _ _ (alI.next 46 hs kw hF (Keep.refl w) (by rw [vk]; simp [updV, e45, e42]))
        · simp only [hc, gdW_no, gdW_yes, Bool.false_and, Bool.true_and] at e45 e42 vk
          refine wpOp_step rfl (fun K hK => ?_)
          have cc := kw.cell z6
          go_simp
          exact hK _ _ (alI.next 46 hs kw hF (Keep.refl w) (by rw [vk]; simp [updV, e45, e42]))
      | 47, _ =>
        simp only [List.getElem?_toArray, List.getElem?_cons_succ, List.getElem?_cons_zero, Option.some.injEq] at ho
        subst ho
        have e44 : x 44 = gdW (alB n m 5) (.int .i64 n.lf) := hF 44 (hd { on := 44, ground := .data } (by simp) rfl)
        have e46 : x 46 = gdW (alB n m 5) (.int .i64 m.lf) := hF 46 (hd { on := 46, ground := .data } (by simp) rfl)
        have e42 : x 42 = .bool (alB n m 5) := hF 42 (hd { on := 42, ground := .guard } (by simp) rfl)
        have vk : alU n m s ca1 ca2 cp1 cp2 47 = gdW (alB n m 5) (.bool ((n.lf : Int) == (m.lf : Int))) := rfl
        cases hc : alB n m 5
        · simp only [hc, gdW_no, gdW_yes, Bool.false_and, Bool.true_and] at e44 e46 e42 vk
          refine wpOp_step rfl (fun K hK => ?_)
          go_simp
          exact hK _ _ (alI.next 47 hs kw hF (Keep.refl w) (by rw [vk]; simp [updV, e44, e46, e42]))
        · simp only [hc, gdW_no, gdW_yes, Bool.false_and, Bool.true_and] at e44 e46 e42 vk
          refine wpOp_step rfl (fun K hK => ?_)
          go_simp
          exact hK _ _ (alI.next 47 hs kw hF (Keep.refl w) (by rw [vk]; simp [updV, e44, e46, e42]))
      | 48, _ =>
        simp only [List.getElem?_toArray, List.getElem?_cons_succ, List.getElem?_cons_zero, Option.some.injEq] at ho
        subst ho
        have e42 : x 42 = (.bool (alB n m 5)) := hF 42 (hd { on := 42, ground := .data } (by simp) rfl)
        have e47 : x 47 = gdW (alB n m 5) (.bool ((n.lf : Int) == (m.lf : Int))) := hF 47 (hd { on := 47, ground := .data } (by simp) rfl)
        have vk : alU n m s ca1 ca2 cp1 cp2 48 = (.bool (alB n m 6)) := rfl
        have ac : alB n m 6 = (alB n m 5 && ((n.lf : Int) == (m.lf : Int))) := rfl
        cases hc : alB n m 5
        · simp only [hc, gdW_no, gdW_yes, Bool.false_and, Bool.true_and] at e42 e47 vk ac
          rw [ac] at vk
          refine wpOp_step rfl (fun K hK => ?_)
          go_simp
          exact hK _ _ (alI.next 48 hs kw hF (Keep.refl w) (by rw [vk]; simp [updV, e42, e47]))
        · simp only [hc, gdW_no, gdW_yes, Bool.false_and, Bool.true_and] at e42 e47 vk ac
          rw [ac] at vk
          refine wpOp_step rfl (fun K hK => ?_)
          go_simp
          exact hK _ _ (alI.next 48 hs kw hF (Keep.refl w) (by rw [vk]; simp [updV, e42, e47]))
      | 49, _ =>
        simp only [List.getElem?_toArray, List.getElem?_cons_succ, List.getElem?_cons_zero, Option.some.injEq] at ho
        subst ho
        have e48 : x 48 = (.bool (alB n m 6)) := hF 48 (hd { on := 48, ground := .data } (by simp) rfl)
        have vk : alU n m s ca1 ca2 cp1 cp2 49 = (.bool (alB n m 6)) := rfl
        refine wpOp_step rfl (fun K hK => ?_)
        go_simp
        exact hK _ _ (alI.next 49 hs kw hF (Keep.refl w) (by rw [vk]; simp [updV, e48]))
      | 50, _ =>
        simp only [List.getElem?_toArray, List.getElem?_cons_succ, List.getElem?_cons_zero, Option.some.injEq] at ho
        subst ho
        have e49 : x 49 = .bool (alB n m 6) := hF 49 (hd { on := 49, ground := .guard } (by simp) rfl)
        have vk : alU n m s ca1 ca2 cp1 cp2 50 = gdW (alB n m 6) (.pointer (some ⟨s, 7, none⟩)) := rfl
        cases hc : alB n m 6
        · simp only [hc, gdW_no, gdW_yes, Bool.false_and, Bool.true_and] at e49 vk
          refine wpOp_step rfl (fun K hK => ?_)
          go_simp
          exact hK _ _ (alI.next 50 hs kw hF (Keep.refl w) (by rw [vk]; simp [updV, e49]))
        · simp only [hc, gdW_no, gdW_yes, Bool.false_and, Bool.true_and] at e49 vk
          refine wpOp_step rfl (fun K hK => ?_)
          go_simp
          exact hK _ _ (alI.next 50 hs kw hF (Keep.refl w) (by rw [vk]; simp [updV, e49]))
      | 51, _ =>
        simp only [List.getElem?_toArray, List.getElem?_cons_succ, List.getElem?_cons_zero, Option.some.injEq] at ho
        subst ho
        have e50 : x 50 = gdW (alB n m 6) (.pointer (some ⟨s, 7, none⟩)) := hF 50 (hd { on := 50, ground := .data } (by simp) rfl)
        have e49 : x 49 = .bool (alB n m 6) := hF 49 (hd { on := 49, ground := .guard } (by simp) rfl)
        have vk : alU n m s ca1 ca2 cp1 cp2 51 = gdW (alB n m 6) (.int .i64 n.rt) := rfl
        cases hc : alB n m 6
        · simp only [hc, gdW_no, gdW_yes, Bool.false_and, Bool.true_and] at e50 e49 vk
          refine wpOp_step rfl (fun K hK => ?_)
          go_simp
          exact hK _ _ (alI.next 51 hs kw hF (Keep.refl w) (by rw [vk]; simp [updV, e50, e49]))
        · simp only [hc, gdW_no, gdW_yes, Bool.false_and, Bool.true_and] at e50 e49 vk
          refine wpOp_step rfl (fun K hK => ?_)
          have cc := kw.cell y7
          go_simp
          exact hK _ _ (alI.next 51 hs kw hF (Keep.refl w) (by rw [vk]; simp [updV, e50, e49]))
      | 52, _ =>
        simp only [List.getElem?_toArray, List.getElem?_cons_succ, List.getElem?_cons_zero, Option.some.injEq] at ho
        subst ho
        have e49 : x 49 = .bool (alB n m 6) := hF 49 (hd { on := 49, ground := .guard } (by simp) rfl)
        have vk : alU n m s ca1 ca2 cp1 cp2 52 = gdW (alB n m 6) (.pointer (some ⟨s + 1, 7, none⟩)) := rfl
        cases hc : alB n m 6
        · simp only [hc, gdW_no, gdW_yes, Bool.false_and, Bool.true_and] at e49 vk
          refine wpOp_step rfl (fun K hK => ?_)
          go_simp
          exact hK _ _ (alI.next 52 hs kw hF (Keep.refl w) (by rw [vk]; simp [updV, e49]))
        · simp only [hc, gdW_no, gdW_yes, Bool.false_and, Bool.true_and] at e49 vk
          refine wpOp_step rfl (fun K hK => ?_)
          go_simp
          exact hK _ _ (alI.next 52 hs kw hF (Keep.refl w) (by rw [vk]; simp [updV, e49]))
      | 53, _ =>
        simp only [List.getElem?_toArray, List.getElem?_cons_succ, List.getElem?_cons_zero, Option.some.injEq] at ho
        subst ho
        have e52 : x 52 = gdW (alB n m 6) (.pointer (some ⟨s + 1, 7, none⟩)) := hF 52 (hd { on := 52, ground := .data } (by simp) rfl)
        have e49 : x 49 = .bool (alB n m 6) := hF 49 (hd { on := 49, ground := .guard } (by simp) rfl)
        have vk : alU n m s ca1 ca2 cp1 cp2 53 = gdW (alB n m 6) (.int .i64 m.rt) := rfl
        cases hc : alB n m 6
        · simp only [hc, gdW_no, gdW_yes, Bool.false_and, Bool.true_and] at e52 e49 vk
          refine wpOp_step rfl (fun K hK => ?_)
          go_simp
          exact hK _ _ (alI.next 53 hs kw hF (Keep.refl w) (by rw [vk]; simp [updV, e52, e49]))
        · simp only [hc, gdW_no, gdW_yes, Bool.false_and, Bool.true_and] at e52 e49 vk
          refine wpOp_step rfl (fun K hK => ?_)
          have cc := kw.cell z7
          go_simp
          exact hK _ _ (alI.next 53 hs kw hF (Keep.refl w) (by rw [vk]; simp [updV, e52, e49]))
      | 54, _ =>
        simp only [List.getElem?_toArray, List.getElem?_cons_succ, List.getElem?_cons_zero, Option.some.injEq] at ho
        subst ho
        have e51 : x 51 = gdW (alB n m 6) (.int .i64 n.rt) := hF 51 (hd { on := 51, ground := .data } (by simp) rfl)
        have e53 : x 53 = gdW (alB n m 6) (.int .i64 m.rt) := hF 53 (hd { on := 53, ground := .data } (by simp) rfl)
        have e49 : x 49 = .bool (alB n m 6) := hF 49 (hd { on := 49, ground := .guard } (by simp) rfl)
        have vk : alU n m s ca1 ca2 cp1 cp2 54 = gdW (alB n m 6) (.bool ((n.rt : Int) == (m.rt : Int))) := rfl
        cases hc : alB n m 6
        · simp only [hc, gdW_no, gdW_yes, Bool.false_and, Bool.true_and] at e51 e53 e49 vk
          refine wpOp_step rfl (fun K hK => ?_)
          go_simp
          exact hK _ _ (alI.next 54 hs kw hF (Keep.refl w) (by rw [vk]; simp [updV, e51, e53, e49]))
        · simp only [hc, gdW_no, gdW_yes, Bool.false_and, Bool.true_and] at e51 e53 e49 vk
          refine wpOp_step rfl (fun K hK => ?_)
          go_simp
          exact hK _ _ (alI.next 54 hs kw hF (Keep.refl w) (by rw [vk]; simp [updV, e51, e53, e49]))
      | 55, _ =>
        simp only [List.getElem?_toArray, List.getElem?_cons_succ, List.getElem?_cons_zero, Option.some.injEq] at ho
        subst ho
        have e49 : x 49 = (.bool (alB n m 6)) := hF 49 (hd { on := 49, ground := .data } (by simp) rfl)
        have e54 : x 54 = gdW (alB n m 6) (.bool ((n.rt : Int) == (m.rt : Int))) := hF 54 (hd { on := 54, ground := .data } (by simp) rfl)
        have vk : alU n m s ca1 ca2 cp1 cp2 55 = (.bool (alB n m 7)) := rfl
        have ac : alB n m 7 = (alB n m 6 && ((n.rt : Int) == (m.rt : Int))) := rfl
        cases hc : alB n m 6
        · simp only [hc, gdW_no, gdW_yes, Bool.false_and, Bool.true_and] at e49 e54 vk ac
          rw [ac] at vk
          refine wpOp_step rfl (fun K hK => ?_)
          go_simp
          exact hK _ _ (alI.next 55 hs kw hF (Keep.refl w) (by rw [vk]; simp [updV, e49, e54]))
        · simp only [hc, gdW_no, gdW_yes, Bool.false_and, Bool.true_and] at e49 e54 vk ac
          rw [ac] at vk
          refine wpOp_step rfl (fun K hK => ?_)
          go_simp
          exact hK _ _ (alI.next 55 hs kw hF (Keep.refl w) (by rw [vk]; simp [updV, e49, e54]))
      | 56, _ =>
        simp only [List.getElem?_toArray, List.getElem?_cons_succ, List.getElem?_cons_zero, Option.some.injEq] at ho
        subst ho
        have e55 : x 55 = (.bool (alB n m 7)) := hF 55 (hd { on := 55, ground := .data } (by simp) rfl)
        have vk : alU n m s ca1 ca2 cp1 cp2 56 = (.bool (alB n m 7)) := rfl
        refine wpOp_step rfl (fun K hK => ?_)
        go_simp
        exact hK _ _ (alI.next 56 hs kw hF (Keep.refl w) (by rw [vk]; simp [updV, e55]))
      | n + 57, hn => exact absurd hn (by show ¬ n + 57 < 57; omega)
    · rintro l A w ⟨hs, x, rfl, kw, hF⟩ hr
      have g0 : l.getD 0 false = true := ready_nil hr (i := 0) rfl hs (by intro e he hb; simp at he)
      have g1 : l.getD 1 false = true := ready_nil hr (i := 1) rfl hs (by intro e he hb; simp at he; subst he; assumption)
      have g2 : l.getD 2 false = true := ready_nil hr (i := 2) rfl hs (by intro e he hb; simp at he)
      have g3 : l.getD 3 false = true := ready_nil hr (i := 3) rfl hs (by intro e he hb; simp at he; subst he; assumption)
      have g4 : l.getD 4 false = true := ready_nil hr (i := 4) rfl hs (by intro e he hb; simp at he; rcases he with rfl | rfl <;> assumption)
      have g5 : l.getD 5 false = true := ready_nil hr (i := 5) rfl hs (by intro e he hb; simp at he; subst he; assumption)
      have g6 : l.getD 6 false = true := ready_nil hr (i := 6) rfl hs (by intro e he hb; simp at he; subst he; assumption)
      have g7 : l.getD 7 false = true := ready_nil hr (i := 7) rfl hs (by intro e he hb; simp at he; rcases he with rfl | rfl <;> assumption)
      have g8 : l.getD 8 false = true := ready_nil hr (i := 8) rfl hs (by intro e he hb; simp at he; subst he; assumption)
      have g9 : l.getD 9 false = true := ready_nil hr (i := 9) rfl hs (by intro e he hb; simp at he; rcases he with rfl | rfl <;> assumption)
      have g10 : l.getD 10 false = true := ready_nil hr (i := 10) rfl hs (by intro e he hb; simp at he; rcases he with rfl | rfl | rfl <;> assumption)
      have g11 : l.getD 11 false = true := ready_nil hr (i := 11) rfl hs (by intro e he hb; simp at he; rcases he with rfl | rfl <;> assumption)
      have g12 : l.getD 12 false = true := ready_nil hr (i := 12) rfl hs (by intro e he hb; simp at he; rcases he with rfl | rfl <;> assumption)
      have g13 : l.getD 13 false = true := ready_nil hr (i := 13) rfl hs (by intro e he hb; simp at he; subst he; assumption)
      have g14 : l.getD 14 false = true := ready_nil hr (i := 14) rfl hs (by intro e he hb; simp at he; rcases he with rfl | rfl <;> assumption)
      have g15 : l.getD 15 false = true := ready_nil hr (i := 15) rfl hs (by intro e he hb; simp at he; subst he; assumption)
      have g16 : l.getD 16 false = true := ready_nil hr (i := 16) rfl hs (by intro e he hb; simp at he; rcases he with rfl | rfl <;> assumption)
      have g17 : l.getD 17 false = true := ready_nil hr (i := 17) rfl hs (by intro e he hb; simp at he; rcases he with rfl | rfl | rfl <;> assumption)
      have g18 : l.getD 18 false = true := ready_nil hr (i := 18) rfl hs (by intro e he hb; simp at he; rcases he with rfl | rfl <;> assumption)
      have g19 : l.getD 19 false = true := ready_nil hr (i := 19) rfl hs (by intro e he hb; simp at he; rcases he with rfl | rfl <;> assumption)
      have g20 : l.getD 20 false = true := ready_nil hr (i := 20) rfl hs (by intro e he hb; simp at he; subst he; assumption)
      have g21 : l.getD 21 false = true := ready_nil hr (i := 21) rfl hs (by intro e he hb; simp at he; rcases he with rfl | rfl <;> assumption)
      have g22 : l.getD 22 false = true := ready_nil hr (i := 22) rfl hs (by intro e he hb; simp at he; rcases he with rfl | rfl | rfl <;> assumption)
      have g23 : l.getD 23 false = true := ready_nil hr (i := 23) rfl hs (by intro e he hb; simp at he; subst he; assumption)
      have g24 : l.getD 24 false = true := ready_nil hr (i := 24) rfl hs (by intro e he hb; simp at he; rcases he with rfl | rfl <;> assumption)
      have g25 : l.getD 25 false = true := ready_nil hr (i := 25) rfl hs (by intro e he hb; simp at he; rcases he with rfl | rfl | rfl <;> assumption)
      have g26 : l.getD 26 false = true := ready_nil hr (i := 26) rfl hs (by intro e he hb; simp at he; rcases he with rfl | rfl | rfl <;> assumption)
      have g27 : l.getD 27 false = true := ready_nil hr (i := 27) rfl hs (by intro e he hb; simp at he; rcases he with rfl | rfl <;> assumption)
      have g28 : l.getD 28 false = true := ready_nil hr (i := 28) rfl hs (by intro e he hb; simp at he; rcases he with rfl | rfl <;> assumption)
      have g29 : l.getD 29 false = true := ready_nil hr (i := 29) rfl hs (by intro e he hb; simp at he; subst he; assumption)
      have g30 : l.getD 30 false = true := ready_nil hr (i := 30) rfl hs (by intro e he hb; simp at he; rcases he with rfl | rfl <;> assumption)
      have g31 : l.getD 31 false = true := ready_nil hr (i := 31) rfl hs (by intro e he hb; simp at he; subst he; assumption)
      have g32 : l.getD 32 false = true := ready_nil hr (i := 32) rfl hs (by intro e he hb; simp at he; rcases he with rfl | rfl <;> assumption)
      have g33 : l.getD 33 false = true := ready_nil hr (i := 33) rfl hs (by intro e he hb; simp at he; rcases he with rfl | rfl | rfl | rfl <;> assumption)
      have g34 : l.getD 34 false = true := ready_nil hr (i := 34) rfl hs (by intro e he hb; simp at he; rcases he with rfl | rfl <;> assumption)
      have g35 : l.getD 35 false = true := ready_nil hr (i := 35) rfl hs (by intro e he hb; simp at he; rcases he with rfl | rfl <;> assumption)
      have g36 : l.getD 36 false = true := ready_nil hr (i := 36) rfl hs (by intro e he hb; simp at he; subst he; assumption)
      have g37 : l.getD 37 false = true := ready_nil hr (i := 37) rfl hs (by intro e he hb; simp at he; rcases he with rfl | rfl <;> assumption)
      have g38 : l.getD 38 false = true := ready_nil hr (i := 38) rfl hs (by intro e he hb; simp at he; subst he; assumption)
      have g39 : l.getD 39 false = true := ready_nil hr (i := 39) rfl hs (by intro e he hb; simp at he; rcases he with rfl | rfl <;> assumption)
      have g40 : l.getD 40 false = true := ready_nil hr (i := 40) rfl hs (by intro e he hb; simp at he; rcases he with rfl | rfl | rfl <;> assumption)
      have g41 : l.getD 41 false = true := ready_nil hr (i := 41) rfl hs (by intro e he hb; simp at he; rcases he with rfl | rfl <;> assumption)
      have g42 : l.getD 42 false = true := ready_nil hr (i := 42) rfl hs (by intro e he hb; simp at he; rcases he with rfl | rfl <;> assumption)
      have g43 : l.getD 43 false = true := ready_nil hr (i := 43) rfl hs (by intro e he hb; simp at he; subst he; assumption)
      have g44 : l.getD 44 false = true := ready_nil hr (i := 44) rfl hs (by intro e he hb; simp at he; rcases he with rfl | rfl <;> assumption)
      have g45 : l.getD 45 false = true := ready_nil hr (i := 45) rfl hs (by intro e he hb; simp at he; subst he; assumption)
      have g46 : l.getD 46 false = true := ready_nil hr (i := 46) rfl hs (by intro e he hb; simp at he; rcases he with rfl | rfl <;> assumption)
      have g47 : l.getD 47 false = true := ready_nil hr (i := 47) rfl hs (by intro e he hb; simp at he; rcases he with rfl | rfl | rfl <;> assumption)
      have g48 : l.getD 48 false = true := ready_nil hr (i := 48) rfl hs (by intro e he hb; simp at he; rcases he with rfl | rfl <;> assumption)
      have g49 : l.getD 49 false = true := ready_nil hr (i := 49) rfl hs (by intro e he hb; simp at he; rcases he with rfl | rfl <;> assumption)
      have g50 : l.getD 50 false = true := ready_nil hr (i := 50) rfl hs (by intro e he hb; simp at he; subst he; assumption)
      have g51 : l.getD 51 false = true := ready_nil hr (i := 51) rfl hs (by intro e he hb; simp at he; rcases he with rfl | rfl <;> assumption)
      have g52 : l.getD 52 false = true := ready_nil hr (i := 52) rfl hs (by intro e he hb; simp at he; subst he; assumption)
      have g53 : l.getD 53 false = true := ready_nil hr (i := 53) rfl hs (by intro e he hb; simp at he; rcases he with rfl | rfl <;> assumption)
      have g54 : l.getD 54 false = true := ready_nil hr (i := 54) rfl hs (by intro e he hb; simp at he; rcases he with rfl | rfl | rfl <;> assumption)
      have g55 : l.getD 55 false = true := ready_nil hr (i := 55) rfl hs (by intro e he hb; simp at he; rcases he with rfl | rfl <;> assumption)
      have g56 : l.getD 56 false = true := ready_nil hr (i := 56) rfl hs (by intro e he hb; simp at he; rcases he with rfl | rfl | rfl | rfl | rfl | rfl | rfl | rfl | rfl | rfl | rfl | rfl | rfl | rfl | rfl | rfl | rfl | rfl | rfl | rfl | rfl | rfl | rfl | rfl | rfl | rfl | rfl | rfl | rfl | rfl | rfl | rfl | rfl | rfl | rfl | rfl | rfl | rfl | rfl | rfl | rfl | rfl | rfl | rfl | rfl | rfl | rfl | rfl | rfl | rfl | rfl | rfl | rfl | rfl | rfl | rfl | rfl | rfl <;> assumption)
      exact ⟨rfl, x, rfl, kw, hF 56 g56⟩
  · rintro e a' w3 ⟨rfl, x, rfl, k3, h56⟩
    dsimp only
    rw [h56]
    go_simp
    go_wp2_with fail
    go_ret
    exact ⟨rfl, k2.trans k3⟩
end Go.Proofs.Ytbchinfmdioijaa
set_option linter.unusedVariables false
set_option linter.unusedSimpArgs false
namespace Go.Proofs.Ytbchinfmdioijaa
open Go.RowKit Go.Shelf
attribute [local go_sem] run_store_float
set_option maxRecDepth 100000 in
set_option maxHeartbeats 2000000 in
theorem equalN_any (a b : Option Addr) (ca cb : Nat) (L M : List Nd) (w : World) (hLn : L.length ≤ 2199023255552) (ra : RdN w a L) (rb : RdN w b M) :
    Calls Try.prog 70 #[.slice a L.length ca, .slice b M.length cb, .func (.func 71) #[] #[]] w fun e w' => e = .returned (.bool (@decide (L = M) (Classical.propDecidable _))) ∧ Keep w w' := by
  by_cases hl : L.length = M.length
  · go_enter Try.func70, Try.ntmps70
    rw [← hl]
    replace hl : Hid _ := hl
    go_wp2_with fail
    go_loopw [17] (fun iv wr => ∃ k : Nat, k ≤ L.length ∧ iv = .int .i64 k ∧ Keep w wr ∧ Hid (∀ j, j < k → L.getD j nd0 = M.getD j nd0)) (fun iv _ => L.length - (intOf iv).toNat)
    case atStart => exact ⟨0, by omega, rfl, Keep.refl w, by intro j hj; omega⟩
    case round =>
      obtain ⟨k, hk, rfl, kw, hinv⟩ := hrel
      by_cases hkl : k < L.length
      · have hkc : (k : Int) < (L.length : Int) := by omega
        have hkl2 : k < M.length := by have := hl.out; omega
        obtain ⟨b1, o1, ca1, cp1, rfl, h1⟩ := (ra.keep kw) k hkl
        obtain ⟨b2, o2, ca2, cp2, rfl, h2⟩ := (rb.keep kw) k hkl2
        obtain ⟨n, hn⟩ : ∃ n, L.getD k nd0 = n := ⟨_, rfl⟩
        obtain ⟨m, hm⟩ : ∃ m, M.getD k nd0 = m := ⟨_, rfl⟩
        rw [hn] at h1
        rw [hm] at h2
        have HX : Hid (L.getD k nd0 = n ∧ M.getD k nd0 = m) := ⟨hn, hm⟩
        clear hn hm
        have kx : Keep wr (wr.alloc (Obj.cells #[Value.int IntKind.u8 n.kd, Value.int IntKind.i64 n.vl, Value.int IntKind.i64 n.ft, Value.float FloatKind.f64 n.th, Value.slice ca1 n.cs.length cp1, Value.int IntKind.u8 n.ms, Value.int IntKind.i64 n.lf, Value.int IntKind.i64 n.rt] 40)) := (Keep.refl wr).alloc _
        have p0 := h1.c0
        have p1 := h1.c1
        have p2 := h1.c2
        have p3 := h1.c3
        have p4 := h1.c4
        have p5 := h1.c5
        have p6 := h1.c6
        have p7 := h1.c7
        have q0 := kx.cell h2.c0
        have q1 := kx.cell h2.c1
        have q2 := kx.cell h2.c2
        have q3 := kx.cell h2.c3
        have q4 := kx.cell h2.c4
        have q5 := kx.cell h2.c5
        have q6 := kx.cell h2.c6
        have q7 := kx.cell h2.c7
        obtain ⟨w2, hw2, k2, s2, x0, x1⟩ := boxes2n wr #[Value.int IntKind.u8 n.kd, Value.int IntKind.i64 n.vl, Value.int IntKind.i64 n.ft, Value.float FloatKind.f64 n.th, Value.slice ca1 n.cs.length cp1, Value.int IntKind.u8 n.ms, Value.int IntKind.i64 n.lf, Value.int IntKind.i64 n.rt] #[Value.int IntKind.u8 m.kd, Value.int IntKind.i64 m.vl, Value.int IntKind.i64 m.ft, Value.float FloatKind.f64 m.th, Value.slice ca2 m.cs.length cp2, Value.int IntKind.u8 m.ms, Value.int IntKind.i64 m.lf, Value.int IntKind.i64 m.rt] 40 40
        have y0 := cell_of_row _ _ 0 _ 40 (0, 0) x0
        have y1 := cell_of_row _ _ 1 _ 40 (0, 0) x0
        have y2 := cell_of_row _ _ 2 _ 40 (0, 0) x0
        have y3 := cell_of_row _ _ 3 _ 40 (0, 0) x0
        have y4 := cell_of_row _ _ 4 _ 40 (0, 0) x0
        have y5 := cell_of_row _ _ 5 _ 40 (0, 0) x0
        have y6 := cell_of_row _ _ 6 _ 40 (0, 0) x0
        have y7 := cell_of_row _ _ 7 _ 40 (0, 0) x0
        have z0 := cell_of_row _ _ 0 _ 40 (0, 0) x1
        have z1 := cell_of_row _ _ 1 _ 40 (0, 0) x1
        have z2 := cell_of_row _ _ 2 _ 40 (0, 0) x1
        have z3 := cell_of_row _ _ 3 _ 40 (0, 0) x1
        have z4 := cell_of_row _ _ 4 _ 40 (0, 0) x1
        have z5 := cell_of_row _ _ 5 _ 40 (0, 0) x1
        have z6 := cell_of_row _ _ 6 _ 40 (0, 0) x1
        have z7 := cell_of_row _ _ 7 _ 40 (0, 0) x1
        simp only [List.getElem?_toArray, List.getElem?_cons_zero, List.getElem?_cons_succ] at y0 y1 y2 y3 y4 y5 y6 y7 z0 z1 z2 z3 z4 z5 z6 z7
        rw [← hw2] at y0 y1 y2 y3 y4 y5 y6 y7 z0 z1 z2 z3 z4 z5 z6 z7
        have hA := alikeNodes_any n m ca1 ca2 cp1 cp2 w2 (h1.rd.keep k2) (h2.rd.keep k2) h1.sz
        unfold Nd.v at hA
        replace hw2 : Hid _ := hw2
        clear x0 x1
        cases hv : alB n m 7
        · rw [hv] at hA
          have HF : Hid (@decide (L = M) (Classical.propDecidable _) = false) := by
            show _ = _
            rw [decide_eq_false_iff_not]
            intro e
            have hh := HX.out
            rw [e] at hh
            have h3 := hh.1.symm.trans hh.2
            subst h3
            rw [(alB_iff n n).2 rfl] at hv
            cases hv
          clear hv
          go_wp2_with fail
          rw [hw2.out]
          refine hA.mono ?_
          rintro e w3 ⟨rfl, k3⟩
          go_wp2_with fail
          go_ret
          exact ⟨ret_bool HF.out.symm, kw.trans (k2.trans k3)⟩
        · rw [hv] at hA
          have HN : Hid (∀ j, j < k + 1 → L.getD j nd0 = M.getD j nd0) := by
            intro j hj
            by_cases e : j = k
            · subst e; rw [HX.out.1, HX.out.2]; exact (alB_iff n m).1 hv
            · exact hinv.out j (by omega)
          clear hv
          go_wp2_with fail
          rw [hw2.out]
          refine hA.mono ?_
          rintro e w3 ⟨rfl, k3⟩
          go_wp2_with fail
          exact ⟨⟨k + 1, by omega, by go_num, kw.trans (k2.trans k3), HN⟩, by simp [intOf]; omega⟩
      · have hkc : ¬ (k : Int) < (L.length : Int) := by omega
        have HT : Hid (@decide (L = M) (Classical.propDecidable _) = true) := @decide_eq_true _ (Classical.propDecidable _) (nd_list_ext hl.out (fun j hj => hinv.out j (by omega)))
        go_wp2_with fail
        go_ret
        exact ⟨ret_bool HT.out.symm, kw⟩
  · have hB : ((L.length : Int) == (M.length : Int)) = false := by rw [beq_eq_false_iff_ne]; omega
    have hB2 : ((L.length : Int) != (M.length : Int)) = true := by simp; omega
    have HF : Hid (@decide (L = M) (Classical.propDecidable _) = false) := by
      show _ = _
      rw [decide_eq_false_iff_not]
      intro e; rw [e] at hl; exact hl rfl
    clear hl
    go_enter Try.func70, Try.ntmps70
    go_wp2_with fail
    go_ret
    exact ⟨ret_bool HF.out.symm, Keep.refl _⟩
set_option maxRecDepth 100000 in
set_option maxHeartbeats 2000000 in
theorem Alike_any (a b : Option Addr) (ca cb : Nat) (oa ob : Int) (L M : List Nd) (w : World) (hLn : L.length ≤ 2199023255552) (ra : RdN w a L) (rb : RdN w b M) :
    Calls Try.prog 40 #[.agg #[.int .i64 oa, .slice a L.length ca], .agg #[.int .i64 ob, .slice b M.length cb]] w fun e w' => e = .returned (.bool (@decide (oa = ob ∧ L = M) (Classical.propDecidable _))) ∧ Keep w w' := by
  obtain ⟨w1, hw1, k1, s1, r0, r1⟩ := boxes2n w #[Value.int .i64 oa, Value.slice a L.length ca] #[Value.int .i64 ob, Value.slice b M.length cb] 24 24
  have hE := equalN_any a b ca cb L M w1 hLn (ra.keep k1) (rb.keep k1)
  replace hw1 : Hid _ := hw1
  clear r0 r1
  by_cases ho : oa = ob
  · subst ho
    go_enter Try.func40, Try.ntmps40
    go_wp2_with fail
    rw [hw1.out]
    refine hE.mono ?_
    rintro e w2 ⟨rfl, k2⟩
    go_wp2_with fail
    go_ret
    refine ⟨ret_bool ?_, k1.trans k2⟩
    by_cases h : L = M
    · rw [@decide_eq_true _ (Classical.propDecidable _) h, @decide_eq_true _ (Classical.propDecidable _) ⟨rfl, h⟩]
    · rw [@decide_eq_false _ (Classical.propDecidable _) h, @decide_eq_false _ (Classical.propDecidable _) (fun e => h e.2)]
  · have hB : (oa == ob) = false := by simpa using ho
    have hB2 : (oa != ob) = true := by simpa using ho
    have HF : Hid (@decide (oa = ob ∧ L = M) (Classical.propDecidable _) = false) := by
      show _ = _
      rw [decide_eq_false_iff_not]
      intro e; exact ho e.1
    clear ho
    go_enter Try.func40, Try.ntmps40
    go_wp2_with fail
    rw [hw1.out]
    go_ret
    exact ⟨ret_bool HF.out.symm, k1⟩
set_option maxRecDepth 100000 in
set_option maxHeartbeats 2000000 in
theorem copied_any (a : Option Addr) (c : Nat) (out : Int) (L : List Nd) (w : World) (hLn : L.length ≤ 1759218604441) (ha : RdN w a L) :
    Calls Try.prog 42 #[.agg #[.int .i64 out, .slice a L.length c]] w fun e w' => ∃ a' c', e = .returned (.agg #[.int .i64 out, .slice a' L.length c']) ∧ L.length ≤ c' ∧ RdN w' a' L ∧ Keep w w' := by
  obtain ⟨w1, hw1, k1, s1, r0, r1⟩ := boxes2n w #[Value.int .i64 out, Value.slice a L.length c] #[Value.int .i64 0, Value.slice none 0 0] 24 24
  have hNd := rNodes_any a c L w1.drew hLn (ha.keep k1.drew)
  have c0 : w1.drew.cell? ⟨w.heap.size, 0, none⟩ = some (.int .i64 out) := cell_of_row w1 _ 0 _ 24 (0, 0) r0
  have c1 : w1.drew.cell? ⟨w.heap.size, 1, none⟩ = some (.slice a L.length c) := cell_of_row w1 _ 1 _ 24 (0, 0) r0
  have r1d : w1.drew.heap[w.heap.size + 1]? = some (.cells #[Value.int .i64 0, Value.slice none 0 0] 24 (0, 0)) := r1
  have hz : w.heap.size + 1 < w1.drew.heap.size := (Array.getElem?_eq_some_iff.1 r1d).1
  replace hw1 : Hid _ := hw1
  replace r1d : Hid _ := r1d
  clear r0 r1
  go_enter Try.func42, Try.ntmps42
  go_wp2_with fail
  rw [hw1.out]
  go_region_with (go_at_call 60; refine hNd.mono ?_; rintro e w6 ⟨vn, rfl, ⟨K6, hN6⟩, k6⟩; obtain ⟨an, cn, rfl, hcn, hC6⟩ := hN6.ct; have x6 := k6.cell c0; have r6 := (k6.block _ hz).trans r1d.out; have e0 := cell_of_row w6 _ 0 _ 24 (0, 0) r6; have e1 := cell_of_row w6 _ 1 _ 24 (0, 0) r6; have f0 := frozen_of_row w6 _ 0 _ 24 r6; have f1 := frozen_of_row w6 _ 1 _ 24 r6; simp at e0 e1; replace r6 : Hid _ := r6)
  all_goals
    go_simp
    go_wp2_with fail
    have F2 : ((w6.setCell ⟨w.heap.size + 1, 0, none⟩ (.int .i64 out)).setCell ⟨w.heap.size + 1, 1, none⟩ (.slice an L.length cn)).heap[w.heap.size + 1]? = some (.cells #[.int .i64 out, .slice an L.length cn] 24 (0, 0)) := by
      have a1 := heap_setCell_same _ (w.heap.size + 1) 0 _ 24 (.int .i64 out) r6.out
      have a2 := heap_setCell_same _ (w.heap.size + 1) 1 _ 24 (.slice an L.length cn) a1
      simpa using a2
    try simp only [Exit.inBlock, Exit.then]
    refine bodyPost_ret (results_cell_row rfl _ _ (w.heap.size + 1) 24 _ (0, 0) _ rfl F2 Try.underlying24 rfl (by kernel_rfl)) rfl ?_
    refine ⟨an, cn, rfl, hcn, (hC6.same (S' := fun _ => True) (fun b hb => ?_) (fun _ _ => trivial)).rdN ha, ?_⟩
    · have h1 := hb.1
      rw [neq_set _ _ _ _ b (by omega), neq_set _ _ _ _ b (by omega)]
    · exact ((k1.drew.trans k6).setCell (p := ⟨w.heap.size + 1, 0, none⟩) (by show w.heap.size ≤ w.heap.size + 1; omega) _).setCell (p := ⟨w.heap.size + 1, 1, none⟩) (by show w.heap.size ≤ w.heap.size + 1; omega) _
end Go.Proofs.Ytbchinfmdioijaa
set_option linter.unusedVariables false
set_option linter.unusedSimpArgs false
namespace Go.Proofs.Ytbchinfmdioijaa
open Go.RowKit Go.Shelf
attribute [local go_sem] run_store_float
/-- Eight stores into a row of eight. -/
theorem store8 (w : World) (g ty : Nat) (x0 x1 x2 x3 x4 x5 x6 x7 v0 v1 v2 v3 v4 v5 v6 v7 : Value) (h : w.heap[g]? = some (.cells #[x0, x1, x2, x3, x4, x5, x6, x7] ty (0, 0))) :
    ((((((((w.setCell ⟨g, 0, none⟩ v0).setCell ⟨g, 1, none⟩ v1).setCell ⟨g, 2, none⟩ v2).setCell ⟨g, 3, none⟩ v3).setCell ⟨g, 4, none⟩ v4).setCell ⟨g, 5, none⟩ v5).setCell ⟨g, 6, none⟩ v6).setCell ⟨g, 7, none⟩ v7).heap[g]? = some (.cells #[v0, v1, v2, v3, v4, v5, v6, v7] ty (0, 0)) ∧
    ∀ b, b ≠ g → ((((((((w.setCell ⟨g, 0, none⟩ v0).setCell ⟨g, 1, none⟩ v1).setCell ⟨g, 2, none⟩ v2).setCell ⟨g, 3, none⟩ v3).setCell ⟨g, 4, none⟩ v4).setCell ⟨g, 5, none⟩ v5).setCell ⟨g, 6, none⟩ v6).setCell ⟨g, 7, none⟩ v7).heap[b]? = w.heap[b]? := by
  have a0 := heap_setCell_same w g 0 _ ty v0 h
  have a1 := heap_setCell_same _ g 1 _ ty v1 a0
  have a2 := heap_setCell_same _ g 2 _ ty v2 a1
  have a3 := heap_setCell_same _ g 3 _ ty v3 a2
  have a4 := heap_setCell_same _ g 4 _ ty v4 a3
  have a5 := heap_setCell_same _ g 5 _ ty v5 a4
  have a6 := heap_setCell_same _ g 6 _ ty v6 a5
  have a7 := heap_setCell_same _ g 7 _ ty v7 a6
  refine ⟨by simpa using a7, fun b hb => ?_⟩
  rw [neq_set _ _ _ _ b hb, neq_set _ _ _ _ b hb, neq_set _ _ _ _ b hb, neq_set _ _ _ _ b hb, neq_set _ _ _ _ b hb, neq_set _ _ _ _ b hb, neq_set _ _ _ _ b hb, neq_set _ _ _ _ b hb]
set_option maxRecDepth 100000 in
set_option maxHeartbeats 2000000 in
theorem copyNode_any (n : Nd) (ca : Option Addr) (cp : Nat) (w : World) (hr : RdI w ca n.cs) (hl : n.cs.length ≤ 17592186044416) (hc : n.cs.length ≤ cp) :
    Calls Try.prog 68 #[n.v ca cp] w fun e w' => ∃ va cc, e = .returned (n.v va cc) ∧ OwnZ 3 w.heap.size w' (.slice va n.cs.length cc) n.cs ∧ n.cs.length ≤ cc ∧ Keep w w' := by
  obtain ⟨w1, hw1, k1, s1, r0, r1⟩ := boxes2n w #[Value.int IntKind.u8 n.kd, Value.int IntKind.i64 n.vl, Value.int IntKind.i64 n.ft, Value.float FloatKind.f64 n.th, Value.slice ca n.cs.length cp, Value.int IntKind.u8 n.ms, Value.int IntKind.i64 n.lf, Value.int IntKind.i64 n.rt] #[Value.int IntKind.u8 0, Value.int IntKind.i64 0, Value.int IntKind.i64 0, Value.float FloatKind.f64 0, Value.slice none 0 0, Value.int IntKind.u8 0, Value.int IntKind.i64 0, Value.int IntKind.i64 0] 40 40
  have hC := copyN_any ca cp n.cs w1 hl hc (hr.keep k1)
  have c4 := cell_of_row w1 _ 4 _ 40 (0, 0) r0
  have hz0 : w.heap.size < w1.heap.size := (Array.getElem?_eq_some_iff.1 r0).1
  have hz1 : w.heap.size + 1 < w1.heap.size := (Array.getElem?_eq_some_iff.1 r1).1
  simp at c4
  replace hw1 : Hid _ := hw1
  replace r0 : Hid _ := r0
  replace r1 : Hid _ := r1
  unfold Nd.v
  go_enter Try.func68, Try.ntmps68
  go_wp2_with fail
  rw [hw1.out]
  refine hC.mono ?_
  rintro e w2 ⟨v, rfl, hO, k2⟩
  obtain ⟨va, cc, rfl, hcc, hrc⟩ := hO.shape
  have q0 := (k2.block _ hz0).trans r0.out
  have q1 := (k2.block _ hz1).trans r1.out
  have e4 := cell_of_row w2 _ 4 _ 40 (0, 0) q0
  have f4 := frozen_of_row w2 _ 4 _ 40 q0
  simp at e4
  have p0 := heap_setCell_same w2 w.heap.size 4 _ 40 (.slice va n.cs.length cc) q0
  have p1 := (neq_set w2 w.heap.size 4 (.slice va n.cs.length cc) (w.heap.size + 1) (by omega)).trans q1
  simp at p0
  have a0 := cell_of_row _ _ 0 _ 40 (0, 0) p0
  have a1 := cell_of_row _ _ 1 _ 40 (0, 0) p0
  have a2 := cell_of_row _ _ 2 _ 40 (0, 0) p0
  have a3 := cell_of_row _ _ 3 _ 40 (0, 0) p0
  have a4 := cell_of_row _ _ 4 _ 40 (0, 0) p0
  have a5 := cell_of_row _ _ 5 _ 40 (0, 0) p0
  have a6 := cell_of_row _ _ 6 _ 40 (0, 0) p0
  have a7 := cell_of_row _ _ 7 _ 40 (0, 0) p0
  have b0 := cell_of_row _ _ 0 _ 40 (0, 0) p1
  have b1 := cell_of_row _ _ 1 _ 40 (0, 0) p1
  have b2 := cell_of_row _ _ 2 _ 40 (0, 0) p1
  have b3 := cell_of_row _ _ 3 _ 40 (0, 0) p1
  have b4 := cell_of_row _ _ 4 _ 40 (0, 0) p1
  have b5 := cell_of_row _ _ 5 _ 40 (0, 0) p1
  have b6 := cell_of_row _ _ 6 _ 40 (0, 0) p1
  have b7 := cell_of_row _ _ 7 _ 40 (0, 0) p1
  have d0 := frozen_of_row _ _ 0 _ 40 p1
  have d1 := frozen_of_row _ _ 1 _ 40 p1
  have d2 := frozen_of_row _ _ 2 _ 40 p1
  have d3 := frozen_of_row _ _ 3 _ 40 p1
  have d4 := frozen_of_row _ _ 4 _ 40 p1
  have d5 := frozen_of_row _ _ 5 _ 40 p1
  have d6 := frozen_of_row _ _ 6 _ 40 p1
  have d7 := frozen_of_row _ _ 7 _ 40 p1
  simp at a0 b0 a1 b1 a2 b2 a3 b3 a4 b4 a5 b5 a6 b6 a7 b7
  clear hrc hC
  replace p1 : Hid _ := p1
  replace p0 : Hid _ := p0
  replace q0 : Hid _ := q0
  replace q1 : Hid _ := q1
  go_wp2_with fail
  obtain ⟨F2, F1⟩ := store8 _ _ 40 _ _ _ _ _ _ _ _ (Value.int IntKind.u8 n.kd) (Value.int IntKind.i64 n.vl) (Value.int IntKind.i64 n.ft) (Value.float FloatKind.f64 n.th) (Value.slice va n.cs.length cc) (Value.int IntKind.u8 n.ms) (Value.int IntKind.i64 n.lf) (Value.int IntKind.i64 n.rt) p1.out
  try simp only [Exit.inBlock, Exit.then]
  refine bodyPost_ret (results_cell_row rfl _ _ (w.heap.size + 1) 40 _ (0, 0) _ rfl F2 Try.underlying40 rfl (by kernel_rfl)) rfl ?_
  refine ⟨va, cc, rfl, ?_, hcc, ?_⟩
  · refine (hO.mono (by omega)).same ?_
    intro b hb
    have := (hO.block hb).1
    rw [F1 b (by omega), neq_set w2 w.heap.size 4 _ b (by omega)]
  · have kk : Keep w (w2.setCell ⟨w.heap.size, 4, none⟩ (.slice va n.cs.length cc)) := (k1.trans k2).setCell (p := ⟨w.heap.size, 4, none⟩) (Nat.le_refl _) _
    exact ((((((((kk.setCell (p := ⟨w.heap.size + 1, 0, none⟩) (by show w.heap.size ≤ w.heap.size + 1; omega) _).setCell (p := ⟨w.heap.size + 1, 1, none⟩) (by show w.heap.size ≤ w.heap.size + 1; omega) _).setCell (p := ⟨w.heap.size + 1, 2, none⟩) (by show w.heap.size ≤ w.heap.size + 1; omega) _).setCell (p := ⟨w.heap.size + 1, 3, none⟩) (by show w.heap.size ≤ w.heap.size + 1; omega) _).setCell (p := ⟨w.heap.size + 1, 4, none⟩) (by show w.heap.size ≤ w.heap.size + 1; omega) _).setCell (p := ⟨w.heap.size + 1, 5, none⟩) (by show w.heap.size ≤ w.heap.size + 1; omega) _).setCell (p := ⟨w.heap.size + 1, 6, none⟩) (by show w.heap.size ≤ w.heap.size + 1; omega) _).setCell (p := ⟨w.heap.size + 1, 7, none⟩) (by show w.heap.size ≤ w.heap.size + 1; omega) _)
end Go.Proofs.Ytbchinfmdioijaa
