import Derived.Test.YtcdcheecaphmgaaDoorProg
import Derived.Test.YtcdcheecaphmgaaDoorYR3
import Derived.Test.YtcdcheecaphmgaaDoorYX4
import Derived.Test.YtcdcheecaphmgaaDoorYV2
import Derived.WalkKit
import Derived.WalkSpells
import Derived.WalkLawsBesides
import Derived.Deep.Draws
import Derived.Deep.QuietTactic
import Derived.BigQuiet
import Derived.Laws.Externs
import Derived.Laws.CopyOwn
import Derived.RangeFuncBox
import Derived.RangeFuncLeaves
import Derived.RangeFuncCalls
import Derived.RangeFuncRecord
import Derived.Below
import Derived.Shelf.Abstract
import Derived.OwnWalkIn
import Derived.TacticsInMore
import Derived.LoopNIn
import Derived.LoopIn
import Derived.Sort.LoopGhostIn
import Derived.Deep.RegionLaw
import Derived.Deep.RegionWith
import Derived.Deep.RegionHeld3
import Derived.Stop.RegionWithIn
import Derived.Test.YtcdcheecaphmgaaDoorM22
set_option linter.unusedVariables false
set_option linter.unusedSimpArgs false
namespace Go.Proofs.YtcdcheecaphmgaaDoor
open Go.RowKit Go.Shelf
attribute [local go_sem] run_store_float
set_option maxRecDepth 100000 in
set_option maxHeartbeats 2000000 in
theorem rFits_any (w : World) (a : Option Addr) (cap m : Nat) (out : Int) (L : List Nd) (hLn : L.length ≤ 2199023255552) (hR : Rgt L) (hrd : RdN w a L) :
    Calls Tryd.prog 45 #[.agg #[.int .i64 out, .slice a L.length cap], .int .i64 (m : Nat)] w fun e w' => e = .returned (.bool (!lackB L m)) ∧ Keep w w' := by
  have k0 : Keep w (w.alloc (Obj.cells #[Value.int IntKind.i64 out, Value.slice a L.length cap] 24)) := (Keep.refl w).alloc _
  go_enter Tryd.func45, Tryd.ntmps45
  go_wp2_with fail
  generalize w.alloc _ = w1 at k0 ⊢
  go_loopw [10] (fun iv wr => ∃ k : Nat, k ≤ L.length ∧ iv = .int .i64 k ∧ Keep w wr ∧ Hid (∀ j, j < k → ¬ (((L.getD j nd0).kd = 2 ∨ (L.getD j nd0).kd = 3) ∧ (m : Int) ≤ (L.getD j nd0).ft))) (fun iv _ => L.length - (intOf iv).toNat)
  case atStart => exact ⟨0, by omega, rfl, k0, by intro j hj; omega⟩
  case round =>
    obtain ⟨k, hk, rfl, kw, hinv⟩ := hrel
    clear k0
    by_cases hkl : k < L.length
    · have hkc : (k : Int) < (L.length : Int) := by omega
      obtain ⟨b, o, ca, cp, rfl, hnd⟩ := (hrd.keep kw) k hkl
      have c0 := hnd.c0
      have c1 := hnd.c1
      have c2 := hnd.c2
      have c3 := hnd.c3
      have c4 := hnd.c4
      have c5 := hnd.c5
      have c6 := hnd.c6
      have c7 := hnd.c7
      have hk1 := hR.kd1 hkl
      have hk2 : (((L.getD k nd0).kd : Int) != 1) = decide ((L.getD k nd0).kd = 2 ∨ (L.getD k nd0).kd = 3) := by
        rw [bne, hk1, Bool.not_not]
      have kb := fun ob => (kw.alloc ob)
      obtain ⟨pv, hpv⟩ : ∃ pv, decide ((L.getD k nd0).kd = 2 ∨ (L.getD k nd0).kd = 3) = pv := ⟨_, rfl⟩
      have HP : Hid (decide ((L.getD k nd0).kd = 2 ∨ (L.getD k nd0).kd = 3) = pv) := hpv
      rw [hpv] at hk1 hk2
      clear hpv hnd
      obtain ⟨N, hN⟩ : ∃ N, L.getD k nd0 = N := ⟨_, rfl⟩
      have HN : Hid (L.getD k nd0 = N) := hN
      rw [hN] at hk1 hk2 c0 c1 c2 c3 c4 c5 c6 c7
      clear hN
      have HS : (¬ (pv = true ∧ (m : Int) ≤ N.ft)) → Hid (∀ j, j < k + 1 → ¬ (((L.getD j nd0).kd = 2 ∨ (L.getD j nd0).kd = 3) ∧ (m : Int) ≤ (L.getD j nd0).ft)) := by
        intro hno j hj hh
        by_cases e : j = k
        · subst e
          rw [HN.out] at hh
          exact hno ⟨by rw [← HP.out, HN.out]; exact decide_eq_true hh.1, hh.2⟩
        · exact hinv.out j (by omega) hh
      cases pv
      · have HT := HS (by simp)
        go_wp2_with fail
        go_roundw
        case rel => exact ⟨k + 1, by omega, by go_num, kb _, HT⟩
        case measure => simp [intOf]; omega
      · by_cases hf : (m : Int) ≤ N.ft
        · have HY : Hid (lackB L m = true) := lackB_yes hkl ⟨of_decide_eq_true HP.out, by rw [HN.out]; exact hf⟩
          go_wp2_with fail
          go_ret
          exact ⟨ret_bool (by rw [HY.out]; rfl), kb _⟩
        · have HT := HS (fun h => hf h.2)
          go_wp2_with fail
          go_roundw
          case rel => exact ⟨k + 1, by omega, by go_num, kb _, HT⟩
          case measure => simp [intOf]; omega
    · have hkc : ¬ (k : Int) < (L.length : Int) := by omega
      have HN : Hid (lackB L m = false) := lackB_no (fun j hj => hinv.out j (by omega))
      go_wp2_with fail
      go_ret
      exact ⟨ret_bool (by rw [HN.out]; rfl), kw⟩
end Go.Proofs.YtcdcheecaphmgaaDoor
set_option linter.unusedVariables false
set_option linter.unusedSimpArgs false
namespace Go.Proofs.YtcdcheecaphmgaaDoor
open Go.RowKit Go.Shelf
attribute [local go_sem] run_store_float
set_option maxRecDepth 100000 in
set_option maxHeartbeats 1000000 in
theorem False_any (a ax : Option Addr) (cap cx : Nat) (out : Int) (L : List Nd) (xs : List Nat) (hLn : L.length ≤ 2199023255552) (hxl : xs.length ≤ 17592186044416) (w : World) (hrd : RdN w a L) (hxd : RdF w ax xs) :
    Calls Tryd.prog 18 #[.agg #[.int .i64 out, .slice a L.length cap], .slice ax xs.length cx] w fun e w' => ∃ v l, e = .returned (.tuple #[v, .int .i64 (lvG L xs.length)]) ∧ OwnM w.heap.size w' v l ∧ (lvG L xs.length ≠ 0 → l = []) ∧ (∀ b, lvG L xs.length = 0 → Bt (shp L) b 0 → l = flm L xs (b.mks 0)) ∧ Keep w w' := by
  have k0 : Keep w (w.alloc (Obj.cells #[Value.int IntKind.i64 out, Value.slice a L.length cap] 24)) := (Keep.refl w).alloc _
  have tb : (w.alloc (Obj.cells #[Value.int IntKind.i64 out, Value.slice a L.length cap] 24)).heap[w.heap.size]? = some (Obj.cells #[Value.int IntKind.i64 out, Value.slice a L.length cap] 24 (0, 0)) := heap_alloc_new w _
  have hC := leavesFor_any a ax cap xs.length cx out L hLn hxl _ (hrd.keep k0)
  go_enter Tryd.func18, Tryd.ntmps18
  go_wp2_with fail
  generalize w.alloc (Obj.cells #[Value.int IntKind.i64 out, Value.slice a L.length cap] 24) = w1 at *
  refine hC.mono ?_
  rintro e w2 ⟨v, rfl, h1, h2, k2⟩
  have k02 := k0.trans k2
  by_cases hF : lvG L xs.length = 0
  · have c1 : (lvG L xs.length != 0) = false := by rw [bne_eq_false_iff_eq]; exact hF
    obtain ⟨hE, hlk⟩ := lvG_ok hF
    obtain ⟨-, hR, hT, b, hb, hlv, hn⟩ := lvE_ok hE
    have t2 := (k2.block _ (Array.getElem?_eq_some_iff.1 tb).1).trans tb
    have x0 := cell_of_row _ _ 0 _ 24 (0, 0) t2
    have x1 := cell_of_row _ _ 1 _ 24 (0, 0) t2
    simp only [List.getElem?_toArray, List.getElem?_cons_zero, List.getElem?_cons_succ] at x0 x1
    obtain ⟨h1, -⟩ := h1 hF
    obtain ⟨av, cv, rfl, -⟩ := h1.shape
    have hM := falseOf_any a ax cap cx out L xs hLn hxl hR hT hb hn hlk w2 (hrd.keep k02) (hxd.keep k02)
    replace hF : Hid _ := hF
    replace hE : Hid _ := hE
    replace hlk : Hid _ := hlk
    replace hlv : Hid _ := hlv
    clear hC h1 h2 t2
    go_wp2_with fail
    refine hM.mono ?_
    rintro e w3 ⟨v3, rfl, hO, k3⟩
    obtain ⟨a3, c3, rfl, -, -⟩ := hO.shape
    replace hO : Hid _ := hO
    clear hM
    go_wp2_with fail
    go_ret2
    exact ⟨.slice a3 (flm L xs (b.mks 0)).length c3, flm L xs (b.mks 0), by rw [hF.out]; rfl, own_mono hO.out k02.le, fun h => absurd hF.out h, fun b2 _ h2 => by rw [← hb.one h2], k02.trans k3⟩
  · have c1 : (lvG L xs.length != 0) = true := by rw [bne_iff_ne]; exact hF
    have h2 := h2 hF
    subst h2
    replace hF : Hid _ := hF
    clear hC h1
    go_wp2_with fail
    go_ret2
    exact ⟨.slice none 0 0, [], rfl, OwnM.nil _ _, fun _ => rfl, fun b h _ => absurd h hF.out, k02⟩
set_option maxRecDepth 100000 in
set_option maxHeartbeats 1000000 in
theorem rFalse_any (a ax : Option Addr) (cap cx : Nat) (out : Int) (L : List Nd) (xs : List Nat) (hLn : L.length ≤ 2199023255552) (hxl : xs.length ≤ 17592186044416) (w : World) (hrd : RdN w a L) (hxd : RdF w ax xs) :
    Calls Tryd.prog 19 #[.agg #[.int .i64 out, .slice a L.length cap], .slice ax xs.length cx] w fun e w' => ∃ v l, e = .returned (.tuple #[v, .int .i64 (lvG L xs.length)]) ∧ OwnM w.heap.size w' v l ∧ (lvG L xs.length ≠ 0 → l = []) ∧ (∀ b, lvG L xs.length = 0 → Bt (shp L) b 0 → l = flm L xs (b.mks 0)) ∧ Keep w w' := by
  have k0 : Keep w (w.alloc (Obj.cells #[Value.int IntKind.i64 out, Value.slice a L.length cap] 24)) := (Keep.refl w).alloc _
  have tb : (w.alloc (Obj.cells #[Value.int IntKind.i64 out, Value.slice a L.length cap] 24)).heap[w.heap.size]? = some (Obj.cells #[Value.int IntKind.i64 out, Value.slice a L.length cap] 24 (0, 0)) := heap_alloc_new w _
  have hC := rMarks_any a cap out L hLn _ (hrd.keep k0)
  go_enter Tryd.func19, Tryd.ntmps19
  go_wp2_with fail
  generalize w.alloc (Obj.cells #[Value.int IntKind.i64 out, Value.slice a L.length cap] 24) = w1 at *
  refine hC.mono ?_
  rintro e w1' ⟨v, l, rfl, hO, h2, h1, k1'⟩
  have k01 := k0.trans k1'
  by_cases hE : lvE L = 0
  · have c1 : (lvE L != 0) = false := by rw [bne_eq_false_iff_eq]; exact hE
    obtain ⟨hS, hR, hT, b, hb, hlv, hn⟩ := lvE_ok hE
    have t1 := (k1'.block _ (Array.getElem?_eq_some_iff.1 tb).1).trans tb
    have x0 := cell_of_row _ _ 0 _ 24 (0, 0) t1
    have x1 := cell_of_row _ _ 1 _ 24 (0, 0) t1
    simp only [List.getElem?_toArray, List.getElem?_cons_zero, List.getElem?_cons_succ] at x0 x1
    have h1 := h1 b hE hb
    subst h1
    obtain ⟨a2, c2, rfl, -, hr1⟩ := hO.shape
    have hFt := rFits_any w1' a cap xs.length out L hLn hR (hrd.keep k01)
    replace hE : Hid _ := hE
    replace hS : Hid _ := hS
    replace hlv : Hid _ := hlv
    replace t1 : Hid _ := t1
    clear hC h2 tb
    go_wp2_with fail
    refine hFt.mono ?_
    rintro e w2 ⟨rfl, k2⟩
    have k02 := k01.trans k2
    have t2 := (k2.block _ (Array.getElem?_eq_some_iff.1 t1.out).1).trans t1.out
    have hr2 := hr1.keep k2
    clear hFt x0 x1
    cases hlk : lackB L xs.length
    · have hG0 : lvG L xs.length = 0 := by unfold lvG; rw [if_neg (by simpa using hE.out), hlk]; rfl
      replace hG0 : Hid _ := hG0
      have hml := b.mks_len 0
      have hmb : (b.mks 0).length ≤ 4096 := by omega
      have hI0 : OwnM w2.heap.size w2 (.slice none 0 0) (flm L xs ((b.mks 0).take 0)) := OwnM.nil _ _
      replace hI0 : Hid _ := hI0
      replace t2 : Hid _ := t2
      clear hO
      go_wp2_with fail
      go_loopw [8, 27] (fun v iv wr => ∃ (j : Nat), j ≤ (b.mks 0).length ∧ iv = .int .i64 j ∧ OwnM w2.heap.size wr v (flm L xs ((b.mks 0).take j)) ∧ Keep w2 wr) (fun _ iv _ => (b.mks 0).length - (intOf iv).toNat)
      case atStart => exact ⟨0, by omega, rfl, hI0.out, Keep.refl _⟩
      case round =>
        clear hI0
        obtain ⟨j, hj, rfl, hI, kw⟩ := hrel
        by_cases hjl : j < (b.mks 0).length
        · have hjc : (j : Int) < ((b.mks 0).length : Int) := by omega
          obtain ⟨b1, o1, hae, d0, d1, d2⟩ := (hr2.keep kw) j hjl
          have hmem : (b.mks 0).getD j m0 ∈ b.mks 0 := by
            rw [List.getD_eq_getElem?_getD, List.getElem?_eq_getElem hjl]
            exact List.getElem_mem hjl
          obtain ⟨hfr, hKi, -⟩ := hb.fr_mks 0 _ hmem
          have htn := take_nextM (b.mks 0) j hjl
          obtain ⟨m, hm⟩ : ∃ m, (b.mks 0).getD j m0 = m := ⟨_, rfl⟩
          rw [hm] at d0 d1 d2 hfr hKi htn
          obtain ⟨i, mf, mt⟩ := m
          simp only at d0 d1 d2 hfr hKi
          subst hae
          have hi : i < L.length := ord_lt hT.wi i (by rw [ord_bt hT hb, ← b.fr_pre 0]; exact List.mem_map.2 ⟨_, hfr, rfl⟩)
          have hft0 := hR.ft hi hKi
          have hft1 := lackB_ft hlk hi hKi
          obtain ⟨bb, o, ca, cpn, rfl, hN⟩ := hrd.keep (k02.trans kw) i hi
          obtain ⟨N, hNd⟩ : ∃ N, L.getD i nd0 = N := ⟨_, rfl⟩
          rw [hNd] at hN hft0 hft1
          obtain ⟨ft, hft⟩ : ∃ ft : Nat, N.ft = ft := ⟨N.ft.toNat, by omega⟩
          obtain ⟨bx, ox, rfl, hxc⟩ := (hxd.keep (k02.trans kw)) ft (by omega)
          obtain ⟨x, hx⟩ : ∃ x, xs.getD ft 0 = x := ⟨_, rfl⟩
          rw [hx] at hxc
          have hxe : xs.getD N.ft.toNat 0 = x := by rw [hft, Int.toNat_natCast, hx]
          have hrg : rgtB L xs i = decide (gsS N x = 2) := by unfold rgtB; rw [hNd]; simp only [hxe]
          have c0 := hN.c0
          have c1 := hN.c1
          have c2' := hN.c2
          have c3 := hN.c3
          have c4 := hN.c4
          have c5 := hN.c5
          have c6 := hN.c6
          have c7 := hN.c7
          rw [hft] at c2'
          have kA : Keep wr (wr.alloc (Obj.cells #[.int .i64 (i : Nat), .int .i64 (mf : Nat), .int .i64 (mt : Nat)] 52)) := (Keep.refl wr).alloc _
          have kB : Keep wr ((wr.alloc (Obj.cells #[.int .i64 (i : Nat), .int .i64 (mf : Nat), .int .i64 (mt : Nat)] 52)).alloc (Obj.cells #[Value.int IntKind.u8 N.kd, Value.int IntKind.i64 N.vl, Value.int IntKind.i64 (ft : Nat), Value.float FloatKind.f64 N.th, Value.slice ca N.cs.length cpn, Value.int IntKind.u8 N.ms, Value.int IntKind.i64 N.lf, Value.int IntKind.i64 N.rt] 63)) := kA.alloc _
          have tm : (wr.alloc (Obj.cells #[.int .i64 (i : Nat), .int .i64 (mf : Nat), .int .i64 (mt : Nat)] 52)).heap[wr.heap.size]? = some (Obj.cells #[.int .i64 (i : Nat), .int .i64 (mf : Nat), .int .i64 (mt : Nat)] 52 (0, 0)) := heap_alloc_new wr _
          have tn : ((wr.alloc (Obj.cells #[.int .i64 (i : Nat), .int .i64 (mf : Nat), .int .i64 (mt : Nat)] 52)).alloc (Obj.cells #[Value.int IntKind.u8 N.kd, Value.int IntKind.i64 N.vl, Value.int IntKind.i64 (ft : Nat), Value.float FloatKind.f64 N.th, Value.slice ca N.cs.length cpn, Value.int IntKind.u8 N.ms, Value.int IntKind.i64 N.lf, Value.int IntKind.i64 N.rt] 63)).heap[wr.heap.size + 1]? = some (Obj.cells #[Value.int IntKind.u8 N.kd, Value.int IntKind.i64 N.vl, Value.int IntKind.i64 (ft : Nat), Value.float FloatKind.f64 N.th, Value.slice ca N.cs.length cpn, Value.int IntKind.u8 N.ms, Value.int IntKind.i64 N.lf, Value.int IntKind.i64 N.rt] 63 (0, 0)) := by
            have := heap_alloc_new (wr.alloc (Obj.cells #[.int .i64 (i : Nat), .int .i64 (mf : Nat), .int .i64 (mt : Nat)] 52)) (Obj.cells #[Value.int IntKind.u8 N.kd, Value.int IntKind.i64 N.vl, Value.int IntKind.i64 (ft : Nat), Value.float FloatKind.f64 N.th, Value.slice ca N.cs.length cpn, Value.int IntKind.u8 N.ms, Value.int IntKind.i64 N.lf, Value.int IntKind.i64 N.rt] 63)
            rw [World.size_alloc] at this
            exact this
          have tm2 := (((Keep.refl (wr.alloc (Obj.cells #[.int .i64 (i : Nat), .int .i64 (mf : Nat), .int .i64 (mt : Nat)] 52))).alloc (Obj.cells #[Value.int IntKind.u8 N.kd, Value.int IntKind.i64 N.vl, Value.int IntKind.i64 (ft : Nat), Value.float FloatKind.f64 N.th, Value.slice ca N.cs.length cpn, Value.int IntKind.u8 N.ms, Value.int IntKind.i64 N.lf, Value.int IntKind.i64 N.rt] 63)).block _ (Array.getElem?_eq_some_iff.1 tm).1).trans tm
          have g0 := kA.cell c0
          have g1 := kA.cell c1
          have g2 := kA.cell c2'
          have g3 := kA.cell c3
          have g4 := kA.cell c4
          have g5 := kA.cell c5
          have g6 := kA.cell c6
          have g7 := kA.cell c7
          have x1 := cell_of_row _ _ 1 _ 24 (0, 0) ((kw.block _ (Array.getElem?_eq_some_iff.1 t2.out).1).trans t2.out)
          have y0 := cell_of_row _ _ 0 _ 52 (0, 0) tm
          have z0 := cell_of_row _ _ 0 _ 63 (0, 0) tn
          have z1 := cell_of_row _ _ 1 _ 63 (0, 0) tn
          have z2 := cell_of_row _ _ 2 _ 63 (0, 0) tn
          have z3 := cell_of_row _ _ 3 _ 63 (0, 0) tn
          have z4 := cell_of_row _ _ 4 _ 63 (0, 0) tn
          have z5 := cell_of_row _ _ 5 _ 63 (0, 0) tn
          have z6 := cell_of_row _ _ 6 _ 63 (0, 0) tn
          have z7 := cell_of_row _ _ 7 _ 63 (0, 0) tn
          simp only [List.getElem?_toArray, List.getElem?_cons_zero, List.getElem?_cons_succ] at x1 y0 z0 z1 z2 z3 z4 z5 z6 z7
          have x1a := kA.cell x1
          have hxb := kB.cell hxc
          have hG := rGoes_any N ca cpn x ((wr.alloc (Obj.cells #[.int .i64 (i : Nat), .int .i64 (mf : Nat), .int .i64 (mt : Nat)] 52)).alloc (Obj.cells #[Value.int IntKind.u8 N.kd, Value.int IntKind.i64 N.vl, Value.int IntKind.i64 (ft : Nat), Value.float FloatKind.f64 N.th, Value.slice ca N.cs.length cpn, Value.int IntKind.u8 N.ms, Value.int IntKind.i64 N.lf, Value.int IntKind.i64 N.rt] 63)).drew ((hN.rd.keep kB).keep (Keep.refl _).drew) hN.sz hN.cp
          unfold Nd.v at hG
          rw [hft] at hG
          have hiL : (i : Int) < (L.length : Int) := by omega
          have hib : i ≤ 2199023255552 := by omega
          have hfx : (ft : Int) < (xs.length : Int) := by omega
          have hfb : ft ≤ 17592186044416 := by omega
          have hjb : j ≤ 4096 := by omega
          obtain ⟨va, vc, hve, hvc, -⟩ := hI.shape
          subst hve
          replace hNd : Hid _ := hNd
          replace hft : Hid _ := hft
          replace hxe : Hid _ := hxe
          replace hx : Hid _ := hx
          replace hm : Hid _ := hm
          replace htn : Hid _ := htn
          replace hI : Hid _ := hI
          have hw2le := kw.le
          replace kw : Hid _ := kw
          replace kB : Hid _ := kB
          replace tm2 : Hid _ := tm2
          replace hrg : Hid _ := hrg
          replace hfr : Hid _ := hfr
          clear hN hmem tm tn kA
          go_wp2_with fail
          go_region_with (go_at_call 46; refine hG.mono ?_; rintro e w6 ⟨rfl, k6⟩)
          all_goals
            have k6w : Keep wr w6 := Keep.trans (Keep.drew kB.out) k6
            have t6 := (k6.block _ (Array.getElem?_eq_some_iff.1 tm2.out).1).trans tm2.out
            have u0 := cell_of_row _ _ 0 _ 52 (0, 0) t6
            have u1' := cell_of_row _ _ 1 _ 52 (0, 0) t6
            have u2' := cell_of_row _ _ 2 _ 52 (0, 0) t6
            simp only [List.getElem?_toArray, List.getElem?_cons_zero, List.getElem?_cons_succ] at u0 u1' u2'
            clear hG c0 c1 c2' c3 c4 c5 c6 c7 g0 g1 g2 g3 g4 g5 g6 g7 x1 x1a y0 z0 z1 z2 z3 z4 z5 z6 z7 hxb d0 d1 d2
            by_cases h2 : gsS N x = 2
            · have cR : (((gsS N x : Nat) : Int) == 2) = true := by rw [h2]; rfl
              have hlf : flm L xs ((b.mks 0).take (j + 1)) = flm L xs ((b.mks 0).take j) ++ [(i, mf, mt)] := by
                rw [htn.out]
                unfold flm
                rw [List.filter_append]
                simp [hrg.out, h2]
              have hO6 : OwnM _ _ _ _ := own_keep hI.out (k6w.alloc (Obj.cells #[.int .i64 (i : Nat), .int .i64 (mf : Nat), .int .i64 (mt : Nat)] 52))
              have hB6 : w2.heap.size ≤ (w6.alloc (Obj.cells #[.int .i64 (i : Nat), .int .i64 (mf : Nat), .int .i64 (mt : Nat)] 52)).heap.size := Nat.le_trans hw2le (Keep.le (Keep.alloc k6w _))
              have hL6 : (flm L xs ((b.mks 0).take j)).length + 1 ≤ 5864062014805 := by
                have h3 : (flm L xs ((b.mks 0).take j)).length ≤ ((b.mks 0).take j).length := List.length_filter_le _ _
                rw [List.length_take] at h3
                omega
              replace h2 : Hid _ := h2
              replace hlf : Hid _ := hlf
              replace hO6 : Hid _ := hO6
              replace hB6 : Hid _ := hB6
              replace hL6 : Hid _ := hL6
              replace t6 : Hid _ := t6
              go_simp
              go_wp2_with (at_builtin; refine wpList_appM w2.heap.size _ rfl _ _ rfl (flm L xs ((b.mks 0).take j)) (i, mf, mt) (.slice va (flm L xs ((b.mks 0).take j)).length vc) ?_ ?_ ?_ ⟨w6.heap.size, 0, none⟩ 1 ?_ ?_ ?_ ?_; rfl; exact hO6.out; exact hB6.out; rfl; exact newsM w6 i mf mt; exact hL6.out; intro v7 w7 hO7 g7; have k7 : Keep w2 w7 := Below.grown (Keep.alloc (Keep.trans kw.out k6w) _) g7 hB6.out (fun b hb => (own_block hI.out hb).1); rw [← hlf.out] at hO7; obtain ⟨a7, c7, rfl, -, -⟩ := hO7.shape; replace hO7 : Hid _ := hO7; replace k7 : Hid _ := k7)
              go_wp2_with fail
              exact ⟨⟨j + 1, by omega, by go_num, hO7.out, k7.out⟩, by simp [intOf]; omega⟩
            · have cR : (((gsS N x : Nat) : Int) == 2) = false := by rw [beq_eq_false_iff_ne]; omega
              have hlf : flm L xs ((b.mks 0).take (j + 1)) = flm L xs ((b.mks 0).take j) := by
                rw [htn.out]
                unfold flm
                rw [List.filter_append]
                simp [hrg.out, h2]
              have hO6 : OwnM _ _ _ _ := own_keep hI.out k6w
              rw [← hlf] at hO6
              replace h2 : Hid _ := h2
              replace hO6 : Hid _ := hO6
              replace t6 : Hid _ := t6
              rw [← hlf]
              replace hlf : Hid _ := hlf
              go_simp
              go_wp2_with fail
              exact ⟨⟨j + 1, by omega, by go_num, hO6.out, Keep.trans kw.out k6w⟩, by simp [intOf]; omega⟩
        · have hjc : ¬ (j : Int) < ((b.mks 0).length : Int) := by omega
          obtain rfl : j = (b.mks 0).length := by omega
          rw [List.take_length] at hI
          obtain ⟨va, vc, rfl, -, -⟩ := hI.shape
          replace hI : Hid _ := hI
          replace kw : Hid _ := kw
          go_wp2_with fail
          go_ret2
          exact ⟨.slice va (flm L xs (b.mks 0)).length vc, by rw [hG0.out]; rfl, flm L xs (b.mks 0), own_mono hI.out k02.le, fun h => absurd hG0.out h, fun b2 _ h2 => by rw [← hb.one h2], k02.trans kw.out⟩
    · have hG0 : lvG L xs.length = 72 := by unfold lvG; rw [if_neg (by simpa using hE.out), hlk]; rfl
      replace hG0 : Hid _ := hG0
      replace hlk : Hid _ := hlk
      go_wp2_with fail
      go_ret2
      exact ⟨.slice none 0 0, [], by rw [hG0.out]; rfl, OwnM.nil _ _, fun _ => rfl, fun b h _ => (by rw [hG0.out] at h; cases h), k02⟩
  · have c1 : (lvE L != 0) = true := by rw [bne_iff_ne]; exact hE
    have h2 := h2 hE
    subst h2
    obtain ⟨a2, c2, rfl, -, -⟩ := hO.shape
    have hG0 : lvG L xs.length = lvE L := by unfold lvG; rw [if_pos hE]
    replace hE : Hid _ := hE
    replace hG0 : Hid _ := hG0
    clear hC h1
    go_wp2_with fail
    go_ret2
    exact ⟨.slice none 0 0, [], by rw [hG0.out]; rfl, OwnM.nil _ _, fun _ => rfl, fun b h _ => absurd (hG0.out.symm.trans h) hE.out, k01⟩
end Go.Proofs.YtcdcheecaphmgaaDoor
set_option linter.unusedVariables false
set_option linter.unusedSimpArgs false
namespace Go.Proofs.YtcdcheecaphmgaaDoor
open Go.RowKit Go.Shelf
/-- Blocks that rise, between two bounds. -/
def Asc (B : Nat) (K : List (Nat × Nat)) (N : Nat) : Prop := (∀ i, i < K.length → B ≤ (K.getD i v0).1 ∧ (K.getD i v0).1 < N) ∧ ∀ i k, i < k → k < K.length → (K.getD i v0).1 < (K.getD k v0).1
theorem Asc.nil (B N : Nat) : Asc B [] N := ⟨fun i hi => by simp at hi, fun i k _ hk => by simp at hk⟩
theorem Asc.next {B N N2 g n : Nat} {K : List (Nat × Nat)} (h : Asc B K N) (hg : N ≤ g) (h2 : g < N2) (hB : B ≤ N) : Asc B (K ++ [(g, n)]) N2 := by
  constructor
  · intro i hi
    rw [List.length_append] at hi
    rw [getD_snoc]
    by_cases e : i = K.length
    · rw [if_pos e]; exact ⟨Nat.le_trans hB hg, h2⟩
    · rw [if_neg e]
      have := h.1 i (by simp at hi; omega)
      omega
  · intro i k hik hk
    simp only [List.length_append, List.length_singleton] at hk
    rw [getD_snoc, getD_snoc, if_neg (show ¬ i = K.length by omega)]
    by_cases e : k = K.length
    · rw [if_pos e]
      have := h.1 i (by omega)
      simp only
      omega
    · rw [if_neg e]
      exact h.2 i k hik (by omega)
/-- Masks of one's own, in all their lists, each in a block of its own. -/
structure OwnK (B : Nat) (w : World) (v : Value) (K : List (Nat × Nat)) (ms : List (List Nat)) : Prop where
  own : OwnV B w v K
  kl : K.length = ms.length
  row : ∀ i, i < ms.length → (K.getD i v0).2 = (ms.getD i []).length ∧ Bi.Row w (K.getD i v0).1 (ms.getD i []) ∧ B ≤ (K.getD i v0).1
  asc : ∀ i k, i < k → k < K.length → (K.getD i v0).1 < (K.getD k v0).1
set_option maxRecDepth 100000 in
set_option maxHeartbeats 1000000 in
theorem Masks_own (a : Option Addr) (cap : Nat) (out : Int) (L : List Nd) (hLn : L.length ≤ 2199023255552) (w : World) (hrd : RdN w a L) :
    Calls Tryd.prog 12 #[.agg #[.int .i64 out, .slice a L.length cap]] w fun e w' => ∃ v K ms, e = .returned (.tuple #[v, .int .i64 (lvE L)]) ∧ OwnK w.heap.size w' v K ms ∧ MsOk L ms ∧ Keep w w' := by
  have k0 : Keep w (w.alloc (Obj.cells #[Value.int IntKind.i64 out, Value.slice a L.length cap] 24)) := (Keep.refl w).alloc _
  have tb : (w.alloc (Obj.cells #[Value.int IntKind.i64 out, Value.slice a L.length cap] 24)).heap[w.heap.size]? = some (Obj.cells #[Value.int IntKind.i64 out, Value.slice a L.length cap] 24 (0, 0)) := heap_alloc_new w _
  have hC := leavesOf_any a cap out L hLn _ (hrd.keep k0)
  go_enter Tryd.func12, Tryd.ntmps12
  go_wp2_with fail
  generalize w.alloc (Obj.cells #[Value.int IntKind.i64 out, Value.slice a L.length cap] 24) = w1 at *
  refine hC.mono ?_
  rintro e w2 ⟨v, rfl, h1, h2, k2⟩
  have k02 := k0.trans k2
  by_cases hE : lvE L = 0
  · have c1 : (lvE L != 0) = false := by rw [bne_eq_false_iff_eq]; exact hE
    obtain ⟨-, hR, -, b, hb, hlv, hn⟩ := lvE_ok hE
    have t2 := (k2.block _ (Array.getElem?_eq_some_iff.1 tb).1).trans tb
    have x0 := cell_of_row _ _ 0 _ 24 (0, 0) t2
    have x1 := cell_of_row _ _ 1 _ 24 (0, 0) t2
    simp only [List.getElem?_toArray, List.getElem?_cons_zero, List.getElem?_cons_succ] at x0 x1
    have hM := marksOf_any a cap out L hLn hR hb hn w2 (hrd.keep k02)
    obtain ⟨h1, -⟩ := h1 hE
    obtain ⟨av, cv, rfl, -⟩ := h1.shape
    have hln : (lvs L).length = b.nl := by rw [hlv, b.lv_len]
    rw [hln]
    replace hE : Hid _ := hE
    replace hln : Hid _ := hln
    replace hlv : Hid _ := hlv
    clear hC h1 h2 t2
    go_wp2_with fail
    refine hM.mono ?_
    rintro e w3 ⟨v3, rfl, hO, k3⟩
    obtain ⟨a3, c3, rfl, -, hr3⟩ := hO.shape
    have hml := b.mks_len 0
    have hmb : (b.mks 0).length ≤ 4096 := by omega
    have I0 : VI b.nl (b.mks 0) w3 0 [] [] (.slice none 0 0) w3 := ⟨Keep.refl _, OwnV.nil _ _, rfl, rfl, fun i hi => by omega⟩
    replace I0 : Hid _ := I0
    clear hM hO x0 x1
    go_wp2_with fail
    go_loopw [6, 20] (fun v iv wr => ∃ (j : Nat) (K : List (Nat × Nat)) (ms : List (List Nat)), j ≤ (b.mks 0).length ∧ iv = .int .i64 j ∧ VI b.nl (b.mks 0) w3 j K ms v wr ∧ Asc w3.heap.size K wr.heap.size) (fun _ iv _ => (b.mks 0).length - (intOf iv).toNat)
    case atStart => exact ⟨0, [], [], by omega, rfl, I0.out, Asc.nil _ _⟩
    case round =>
      clear I0
      obtain ⟨j, K, ms, hj, rfl, hI, hA⟩ := hrel
      replace hA : Hid _ := hA
      by_cases hjl : j < (b.mks 0).length
      · have hjc : (j : Int) < ((b.mks 0).length : Int) := by omega
        obtain ⟨bb, o, hae, d0, d1, d2⟩ := (hr3.keep hI.k0) j hjl
        obtain ⟨f1, f2⟩ := mks_at hjl
        obtain ⟨m, hm⟩ : ∃ m, (b.mks 0).getD j m0 = m := ⟨_, rfl⟩
        rw [hm] at d0 d1 d2 f1 f2
        obtain ⟨mi, mf, mt⟩ := m
        simp only at d0 d1 d2 f1 f2
        subst hae
        have kx : Keep wr (wr.alloc (Obj.cells #[.int .i64 (mi : Nat), .int .i64 (mf : Nat), .int .i64 (mt : Nat)] 52)) := (Keep.refl wr).alloc _
        have hCm := maskOf_any mi mf mt b.nl (wr.alloc (Obj.cells #[.int .i64 (mi : Nat), .int .i64 (mf : Nat), .int .i64 (mt : Nat)] 52)) (by omega) f1 f2
        obtain ⟨va, vc, hve, hvc, -⟩ := hI.own.shape
        subst hve
        have hkl := hI.kl
        have hjb : j ≤ 4096 := by omega
        replace hI : Hid _ := hI
        replace hm : Hid _ := hm
        replace hkl : Hid _ := hkl
        go_wp2_with fail
        refine hCm.mono ?_
        rintro e w6 ⟨m, g, rfl, hg, hrow, hmk, k6⟩
        have kw6 := kx.trans k6
        have hO6 : OwnV _ _ _ _ := own_keep hI.out.own (kw6.alloc (Obj.cells #[.slice (some ⟨g, 0, none⟩) m.length m.length] 40))
        have hB6 : w3.heap.size ≤ (w6.alloc (Obj.cells #[.slice (some ⟨g, 0, none⟩) m.length m.length] 40)).heap.size := Nat.le_trans hI.out.k0.le (kw6.alloc _).le
        have hL6 : K.length + 1 ≤ 5864062014805 := by rw [hkl.out]; omega
        have hrw : Bi.Row (w6.alloc (Obj.cells #[.slice (some ⟨g, 0, none⟩) m.length m.length] 40)) g m := hrow.keep ((Keep.refl w6).alloc _)
        have hmk2 : Bi.mkl b.nl (mkF ((b.mks 0).getD j m0)) m := by rw [hm.out]; exact hmk
        replace hO6 : Hid _ := hO6
        replace hB6 : Hid _ := hB6
        replace hL6 : Hid _ := hL6
        replace hrw : Hid _ := hrw
        replace hmk : Hid _ := hmk
        replace hmk2 : Hid _ := hmk2
        replace hrow : Hid _ := hrow
        clear hCm
        go_wp2_with (at_builtin; refine wpList_appV w3.heap.size _ rfl _ _ rfl K (g, m.length) (.slice va K.length vc) ?_ ?_ ?_ ⟨w6.heap.size, 0, none⟩ 1 ?_ ?_ ?_ ?_; rfl; exact hO6.out; exact hB6.out; rfl; exact newsV w6 g m.length; exact hL6.out; intro v7 w7 hO7 g7; have hN7 := hI.out.next (kw6.alloc _) hrw.out hmk2.out hO7 g7; obtain ⟨a7, c7, rfl, -, -⟩ := hO7.shape; replace hN7 : Hid _ := hN7)
        have hA7 : Asc w3.heap.size (K ++ [(g, m.length)]) w7.heap.size := by
          have h9 := (hN7.out.ok j (by omega)).2.1.lt
          rw [getD_snoc, if_pos hkl.out.symm] at h9
          rw [World.size_alloc] at hg
          exact Asc.next hA.out (by omega) h9 (hI.out.k0.le)
        replace hA7 : Hid _ := hA7
        have hkl2 : (K ++ [(g, m.length)]).length = j + 1 := by rw [List.length_append, hkl.out]; rfl
        rw [show (K ++ [(g, m.length)]).length = K.length + 1 by simp] at hN7
        clear g7 hO7
        go_wp2_with fail
        exact ⟨⟨j + 1, _, _, by omega, by go_num, hN7.out, hA7.out⟩, by simp [intOf]; omega⟩
      · have hjc : ¬ (j : Int) < ((b.mks 0).length : Int) := by omega
        obtain rfl : j = (b.mks 0).length := by omega
        obtain ⟨va, vc, hve, -, -⟩ := hI.own.shape
        subst hve
        have hK : OwnK w.heap.size wr (.slice va K.length vc) K ms := by
          have hle := (k02.trans k3).le
          refine ⟨own_mono hI.own hle, hI.kl.trans hI.ml.symm, ?_, hA.out.2⟩
          intro i hi
          have hi2 : i < (b.mks 0).length := by rw [← hI.ml]; exact hi
          obtain ⟨h1, h2, -⟩ := hI.ok i hi2
          exact ⟨h1, h2, Nat.le_trans hle (hA.out.1 i (by rw [hI.kl]; exact hi2)).1⟩
        have hML : MsOk L ms := ⟨fun h => absurd hE.out h, fun b2 _ hb2 => by
          rw [← hb.one hb2]
          exact ⟨hI.ml, fun i hi => (hI.ok i (by rw [← hI.ml]; exact hi)).2.2⟩⟩
        have kf := (k02.trans k3).trans hI.k0
        replace hI : Hid _ := hI
        replace hK : Hid _ := hK
        replace hML : Hid _ := hML
        go_wp2_with fail
        go_ret2
        exact ⟨.slice va K.length vc, by rw [hE.out]; rfl, K, ms, hK.out, hML.out, kf⟩
  · have c1 : (lvE L != 0) = true := by rw [bne_iff_ne]; exact hE
    have h2 := h2 hE
    subst h2
    replace hE : Hid _ := hE
    clear hC h1
    go_wp2_with fail
    go_ret2
    exact ⟨.slice none 0 0, [], [], rfl, ⟨OwnV.nil _ _, rfl, fun j hj => by simp at hj, fun i k _ hk => by simp at hk⟩, ⟨fun _ => rfl, fun b h _ => absurd h hE.out⟩, k02⟩
end Go.Proofs.YtcdcheecaphmgaaDoor
