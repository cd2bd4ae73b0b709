import Derived.Test.YtcdcheecaphmgaaDoorProg
import Derived.Test.YtcdcheecaphmgaaDoorBF1
import Derived.WalkKit
import Derived.WalkSpells
import Derived.WalkLawsBesides
import Derived.Laws.CopyOwn
import Derived.Deep.Draws
import Derived.Deep.QuietTactic
import Derived.BigQuiet
import Derived.Deep.RegionWith
import Derived.Deep.RegionHeld3
import Derived.Shelf.Strconv.Itoa0
import Derived.Shelf.Spec.TrailingZeros
import Derived.RangeFuncBox
import Derived.RangeFuncLeaves
import Derived.Shelf.Abstract
import Derived.OwnWalkIn
import Derived.TacticsInMore
import Derived.LoopNIn
import Derived.LoopIn
import Derived.RangeFuncCalls
import Derived.Laws.BytesArg
import Derived.Deep.RegionLaw
import Derived.Lib.SliceRun
import Derived.Test.YtcdcheecaphmgaaDoorM31
set_option linter.unusedVariables false
set_option linter.unusedSimpArgs false
namespace Go.Proofs.YtcdcheecaphmgaaDoor.Bi
open Go.RowKit
/-- Words of one's own, one of them changed. -/
theorem Rd.of_rowC {w : World} {g : Nat} {cur : Array Value} {l : List Nat} (h : RowC w g cur) (hc : ∀ j, j < l.length → cur[j]? = some (.int .u64 (l.getD j 0 : Nat))) : Rd w (some ⟨g, 0, none⟩) l := by
  intro j hj
  refine ⟨g, 0, rfl, ?_⟩
  rw [Nat.zero_add, h.cell j]
  exact hc j hj
theorem cells_set {cur : Array Value} {l : List Nat} {q : Nat} (hc : ∀ j, j < l.length → cur[j]? = some (.int .u64 (l.getD j 0 : Nat))) (hq : q < l.length) (y : Nat) :
    ∀ j, j < (l.set q y).length → (cur.setIfInBounds q (.int .u64 (y : Nat)))[j]? = some (.int .u64 ((l.set q y).getD j 0 : Nat)) := by
  intro j hj
  rw [List.length_set] at hj
  have hs : q < cur.size := (Array.getElem?_eq_some_iff.1 (hc q hq)).1
  rw [Array.getElem?_setIfInBounds]
  by_cases e : q = j
  · subst e
    rw [if_pos rfl, if_pos hs]
    simp [List.getD, hq]
  · rw [if_neg e, hc j hj]
    simp only [List.getD, List.getElem?_set]
    rw [if_neg e]
theorem Own.cells {B : Nat} {w : World} {v : Value} {l : List Nat} (h : Own B w v l) (h0 : l.length ≠ 0) : ∃ g cur cap, v = .slice (some ⟨g, 0, none⟩) l.length cap ∧ B ≤ g ∧ RowC w g cur ∧ l.length ≤ cap ∧ ∀ j, j < l.length → cur[j]? = some (.int .u64 (l.getD j 0 : Nat)) := by
  rcases h.2 with ⟨h1, h2⟩ | ⟨g, cap, cur, hv, hg, hh, h1, h2, h3, h4⟩
  · exact absurd h2 h0
  · refine ⟨g, cur, cap, hv, hg, hh, h1, ?_⟩
    intro j hj
    have q := congrArg (fun t => t[j]?) h4
    simp only [Nat.mul_one, List.getElem?_take, hj, if_true] at q
    rw [U_get l j hj] at q
    simpa using q
end Go.Proofs.YtcdcheecaphmgaaDoor.Bi
set_option linter.unusedVariables false
set_option linter.unusedSimpArgs false
namespace Go.Proofs.YtcdcheecaphmgaaDoor.Bi
open Go.RowKit
theorem put_or (x b : Nat) (hx : x < 18446744073709551616) (hb : b < 18446744073709551616) : x &&& (18446744073709551615 - b) ||| b = x ||| b := by
  have e : ∀ i, (18446744073709551615 - b).testBit i = (decide (i < 64) && !b.testBit i) := by
    intro i
    have := Nat.testBit_two_pow_sub_succ (n := 64) hb i
    rw [show 18446744073709551615 - b = 2 ^ 64 - (b + 1) by omega]
    exact this
  apply Nat.eq_of_testBit_eq
  intro i
  rw [Nat.testBit_or, Nat.testBit_and, Nat.testBit_or, e]
  by_cases hi : i < 64
  · rw [decide_eq_true hi]; cases x.testBit i <;> cases b.testBit i <;> rfl
  · have hxi : x.testBit i = false := Nat.testBit_lt_two_pow (Nat.lt_of_lt_of_le hx (Nat.pow_le_pow_right (n := 2) (i := 64) (j := i) (by omega) (by omega)))
    rw [hxi]; simp
/-- What Put puts. -/
def putW (inb : Bool) (x b : Nat) : Nat := if inb then x ||| b else x &&& (18446744073709551615 - b)
set_option maxRecDepth 100000 in
set_option maxHeartbeats 1000000 in
theorem rPut_ok (a : Option Addr) (c n : Nat) (l : List Nat) (inb : Bool) (w : World) (hl : l.length ≤ 17592186043904) (hn : n < 64 * l.length) (hr : Rd w a l) (hw : W64 l) :
    Calls Tryd.prog 49 #[.slice a l.length c, .int .i64 (n : Nat), .bool inb] w fun e w' => LstA w w' e 0 (l.set (n / 64) (putW inb (l.getD (n / 64) 0) (2 ^ (n % 64)))) := by
  obtain ⟨q, hq⟩ : ∃ q, n / 64 = q := ⟨_, rfl⟩
  obtain ⟨r, hrr⟩ : ∃ r, n % 64 = r := ⟨_, rfl⟩
  rw [hq, hrr]
  have hqi : (n : Int) / 64 = (q : Int) := by omega
  have hri : (n : Int) % 64 = (r : Int) := by omega
  have hql : q < l.length := by omega
  have hr64 : r < 64 := by omega
  have hn9 : n ≤ 9223372036854775807 := by omega
  obtain ⟨b, o, rfl, -⟩ := hr q hql
  have hxl := W64_getD hw q
  have hbl := bit_lt hr64
  have hwb := wrapbit hr64
  obtain ⟨x, hx⟩ : ∃ x, l.getD q 0 = x := ⟨_, rfl⟩
  obtain ⟨bt, hbt⟩ : ∃ bt, 2 ^ r = bt := ⟨_, rfl⟩
  rw [hx] at hxl
  rw [hbt] at hbl hwb
  have h1 := u64_andNot_nat x bt hxl hbl
  have hyl : x &&& (18446744073709551615 - bt) < 18446744073709551616 := and_lt _ hxl
  have h2 := u64_or_nat (x &&& (18446744073709551615 - bt)) bt hyl hbl
  rw [put_or x bt hxl hbl] at h2
  have Hx : Hid (l.getD q 0 = x ∧ 2 ^ r = bt) := ⟨hx, hbt⟩
  clear hq hrr hbt
  obtain ⟨y, hy⟩ : ∃ y, x &&& (18446744073709551615 - bt) = y := ⟨_, rfl⟩
  have Hy : Hid (x &&& (18446744073709551615 - bt) = y) := hy
  rw [hy] at h1 h2 hyl
  clear hy
  go_enter Tryd.func49, Tryd.ntmps49
  go_wp2_with (at_builtin; refine wpList_copyn rfl _ _ rfl l ⟨b, o, none⟩ c ?_ ?_ hr (by omega) ?_; rotate_left 2; intro v w1 o1 k1)
  obtain ⟨g, cur, cap, rfl, hg, hrow, hcap, hcu⟩ := o1.cells (by omega)
  have hc0 := hrow.cell q
  rw [hcu q hql, hx] at hc0
  have hfz := hrow.frozen q
  have hrow2 := hrow.set q (.int .u64 (y : Nat))
  have hcu2 := cells_set hcu hql y
  have hc2 := hrow2.cell q
  rw [hcu2 q (by rw [List.length_set]; exact hql)] at hc2
  rw [show (l.set q y).getD q 0 = y by simp [List.getD, hql]] at hc2
  have hfz2 := hrow2.frozen q
  have Hset : Hid (∀ y : Nat, ∀ j, j < (l.set q y).length → (cur.setIfInBounds q (.int .u64 (y : Nat)))[j]? = some (.int .u64 ((l.set q y).getD j 0 : Nat))) := fun y => cells_set hcu hql y
  have Hset2 : Hid (∀ z : Nat, ∀ j, j < (l.set q z).length → ((cur.setIfInBounds q (.int .u64 (y : Nat))).setIfInBounds q (.int .u64 (z : Nat)))[j]? = some (.int .u64 ((l.set q z).getD j 0 : Nat))) := by
    show ∀ z, _
    intro z
    have := cells_set hcu2 (q := q) (by rw [List.length_set]; exact hql) z
    rw [List.set_set] at this
    exact this
  have Hlen : Hid (∀ y, (l.set q y).length = l.length) := fun y => List.length_set ..
  clear hcu hcu2 o1 hx
  cases inb
  · go_simp
    go_wp2_with fail
    go_ret2
    rw [Hx.out.1, Hx.out.2, show putW false x bt = y from Hy.out]
    exact ⟨some ⟨g, 0, none⟩, cap, by rw [Hlen.out]; rfl, by rw [Hlen.out]; exact hcap, Rd.of_rowC hrow2 (Hset.out _), k1.setCell hg _⟩
  · go_simp
    go_wp2_with fail
    go_ret2
    rw [Hx.out.1, Hx.out.2, show putW true x bt = x ||| bt from rfl]
    exact ⟨some ⟨g, 0, none⟩, cap, by rw [Hlen.out]; rfl, by rw [Hlen.out]; exact hcap, Rd.of_rowC (hrow2.set q _) (Hset2.out _), (k1.setCell hg _).setCell hg _⟩
  all_goals rfl
end Go.Proofs.YtcdcheecaphmgaaDoor.Bi
set_option linter.unusedVariables false
set_option linter.unusedSimpArgs false
namespace Go.Proofs.YtcdcheecaphmgaaDoor
open Go.RowKit Go.Shelf
theorem testBit_less (r j : Nat) (hj : j < 64) (hr : r < 64) : (18446744073709551615 - 2 ^ r).testBit j = !decide (j = r) := by
  have h1 : 2 ^ r < 2 ^ 64 := Nat.pow_lt_pow_right (by omega) hr
  have e : 18446744073709551615 - 2 ^ r = 2 ^ 64 - (2 ^ r + 1) := by
    have : (2 : Nat) ^ 64 = 18446744073709551616 := by decide
    omega
  rw [e, Nat.testBit_two_pow_sub_succ h1, Nat.testBit_two_pow]
  simp only [hj, decide_true, Bool.true_and]
  by_cases h : j = r
  · subst h; simp
  · have : ¬ r = j := fun q => h q.symm
    simp [h, this]
theorem mkl_put {n i : Nat} {f : Nat → Bool} {l : List Nat} (h : Bi.mkl n f l) (hi : i < n) : Bi.mkl n (fun p => f p && !decide (p = i)) (l.set (i / 64) (Bi.putW false (l.getD (i / 64) 0) (2 ^ (i % 64)))) := by
  have hk : i / 64 < l.length := by rw [h.1]; omega
  refine ⟨by rw [List.length_set]; exact h.1, ?_, ?_⟩
  · intro x hx
    rcases List.mem_or_eq_of_mem_set hx with hx | rfl
    · exact h.2.1 x hx
    · unfold Bi.putW
      simp only [Bool.false_eq_true, if_false]
      exact Nat.lt_of_le_of_lt Nat.and_le_left (Bi.W64_getD h.2.1 _)
  · intro p
    have hset : Bi.hs (l.set (i / 64) (Bi.putW false (l.getD (i / 64) 0) (2 ^ (i % 64)))) p = if p / 64 = i / 64 then (Bi.putW false (l.getD (i / 64) 0) (2 ^ (i % 64))).testBit (p % 64) else Bi.hs l p := by
      unfold Bi.hs
      by_cases e : p / 64 = i / 64
      · rw [if_pos e, e, List.getD_eq_getElem?_getD, List.getElem?_set_self hk]; rfl
      · rw [if_neg e, List.getD_eq_getElem?_getD, List.getElem?_set_ne (fun q => e q.symm), ← List.getD_eq_getElem?_getD]
    rw [hset]
    by_cases e : p / 64 = i / 64
    · rw [if_pos e]
      unfold Bi.putW
      simp only [Bool.false_eq_true, if_false]
      rw [Nat.testBit_and, testBit_less _ _ (Nat.mod_lt _ (by omega)) (Nat.mod_lt _ (by omega))]
      have h2 := h.2.2 p
      unfold Bi.hs at h2
      rw [e] at h2
      rw [h2]
      by_cases e2 : p = i
      · subst e2; simp
      · have : ¬ p % 64 = i % 64 := by omega
        simp [e2, this]
    · rw [if_neg e, h.2.2]
      have e2 : ¬ p = i := fun q => e (by rw [q])
      simp [e2]
/-- What is left once a mark's leaves below i are struck out too. -/
def lftI (l : List (Nat × Nat × Nat)) (a i : Nat) : Nat → Bool := fun p => lftF l p && !decide (a ≤ p ∧ p < i)
theorem lftI_zero (l : List (Nat × Nat × Nat)) (a : Nat) : lftI l a a = lftF l := by
  funext p
  unfold lftI
  have : ¬ (a ≤ p ∧ p < a) := by omega
  simp [this]
theorem lftI_next (l : List (Nat × Nat × Nat)) {a i : Nat} (h : a ≤ i) : (fun p => lftI l a i p && !decide (p = i)) = lftI l a (i + 1) := by
  funext p
  unfold lftI
  by_cases e : p = i
  · subst e
    have h1 : a ≤ p ∧ p < p + 1 := by omega
    simp [h1]
  · by_cases e2 : a ≤ p ∧ p < i
    · have h1 : a ≤ p ∧ p < i + 1 := by omega
      simp [e2, h1]
    · have h1 : ¬ (a ≤ p ∧ p < i + 1) := by omega
      simp [e, e2, h1]
theorem lftI_all (l : List (Nat × Nat × Nat)) (x : Nat × Nat × Nat) : lftI l x.2.1 x.2.2 = lftF (l ++ [x]) := by
  rw [lftF_snoc]
  rfl
end Go.Proofs.YtcdcheecaphmgaaDoor
set_option linter.unusedVariables false
set_option linter.unusedSimpArgs false
namespace Go.Proofs.YtcdcheecaphmgaaDoor
open Go.RowKit Go.Shelf
theorem rd_keep {w w' : World} {a : Option Addr} {l : List Nat} (h : Bi.Rd w a l) (k : Keep w w') : Bi.Rd w' a l := fun j hj => by
  obtain ⟨b, o, e, hc⟩ := h j hj
  exact ⟨b, o, e, k.cell hc⟩
set_option maxRecDepth 100000 in
set_option maxHeartbeats 2000000 in
theorem rReach_any (a ax : Option Addr) (cap cx : Nat) (out : Int) (L : List Nd) (xs : List Nat) (hLn : L.length ≤ 2199023255552) (hxl : xs.length ≤ 17592186044416) (w : World) (hrd : RdN w a L) (hxd : RdF w ax xs) :
    Calls Tryd.prog 21 #[.agg #[.int .i64 out, .slice a L.length cap], .slice ax xs.length cx] w fun e w' => ∃ v, e = .returned (.tuple #[v, .int .i64 (lvG L xs.length)]) ∧ (lvG L xs.length ≠ 0 → v = .slice none 0 0) ∧ (∀ b, lvG L xs.length = 0 → Bt (shp L) b 0 → ∃ l ar cr, v = .slice ar (l : List Nat).length cr ∧ Bi.Rd w' ar l ∧ Bi.mkl b.nl (lftF (flm L xs (b.mks 0))) l) ∧ Keep w w' := by
  have k0 : Keep w (w.alloc (Obj.cells #[Value.int IntKind.i64 out, Value.slice a L.length cap] 24)) := (Keep.refl w).alloc _
  have tb : (w.alloc (Obj.cells #[Value.int IntKind.i64 out, Value.slice a L.length cap] 24)).heap[w.heap.size]? = some (Obj.cells #[Value.int IntKind.i64 out, Value.slice a L.length cap] 24 (0, 0)) := heap_alloc_new w _
  have hC := rFalse_any a ax cap cx out L xs hLn hxl _ (hrd.keep k0) (hxd.keep k0)
  go_enter Tryd.func21, Tryd.ntmps21
  go_wp2_with fail
  generalize w.alloc (Obj.cells #[Value.int IntKind.i64 out, Value.slice a L.length cap] 24) = w1 at *
  refine hC.mono ?_
  rintro e w2 ⟨v, fl, rfl, hO, h2, h1, k2⟩
  have k02 := k0.trans k2
  by_cases hF : lvG L xs.length = 0
  · have c1 : (lvG L xs.length != 0) = false := by rw [bne_eq_false_iff_eq]; exact hF
    obtain ⟨hE, hlk⟩ := lvG_ok hF
    obtain ⟨-, hR, hT, b, hb, hlv, hn⟩ := lvE_ok hE
    have t2 := (k2.block _ (Array.getElem?_eq_some_iff.1 tb).1).trans tb
    have x0 := cell_of_row _ _ 0 _ 24 (0, 0) t2
    have x1 := cell_of_row _ _ 1 _ 24 (0, 0) t2
    simp only [List.getElem?_toArray, List.getElem?_cons_zero, List.getElem?_cons_succ] at x0 x1
    have hfl := h1 b hF hb
    have hfm : ∀ x ∈ fl, x ∈ b.mks 0 := by rw [hfl]; intro x hx; exact (List.mem_filter.1 hx).1
    have hflen : fl.length ≤ 4096 := by
      rw [hfl]
      have h1 : (flm L xs (b.mks 0)).length ≤ (b.mks 0).length := List.length_filter_le _ _
      have := b.mks_len 0
      omega
    obtain ⟨a2, c2, rfl, -, hr2⟩ := hO.shape
    have hM := rCount_any a cap out L hLn w2 (hrd.keep k02)
    have hcn : cnN L = (b.nl : Int) := by unfold cnN; rw [if_pos hE, hlv, b.lv_len]
    rw [hcn] at hM
    replace hF : Hid _ := hF
    replace hE : Hid _ := hE
    replace hlk : Hid _ := hlk
    replace hlv : Hid _ := hlv
    replace hcn : Hid _ := hcn
    replace hfl : Hid _ := hfl
    replace hfm : Hid _ := hfm
    clear hC h1 h2 t2 tb hO
    go_wp2_with fail
    refine hM.mono ?_
    rintro e w3 ⟨rfl, k3⟩
    have hFu := Bi.rFull_ok b.nl w3 (by omega)
    clear hM x0 x1
    go_wp2_with fail
    refine hFu.mono ?_
    rintro e w4 ⟨l0, rfl, hrow, hmk, k4⟩
    have k4 : Keep _ _ := k4
    have k04 := (k02.trans k3).trans k4
    have hr4 := hr2.keep (k3.trans k4)
    have hqn : (b.nl + 63) / 64 ≤ 65 := by omega
    have I0 : Bi.Rd w4 (some ⟨w3.heap.size, 0, none⟩) l0 := fun j hj => ⟨w3.heap.size, 0, rfl, by rw [Nat.zero_add]; exact hrow.cell j hj⟩
    have hmk0 : Bi.mkl b.nl (lftF (fl.take 0)) l0 := hmk
    replace I0 : Hid _ := I0
    replace hmk0 : Hid _ := hmk0
    clear hFu hrow hmk
    go_wp2_with fail
    go_loopw [10, 36] (fun v iv wr => Keep w4 wr ∧ ∃ (j : Nat) (l : List Nat) (ar : Option Addr) (cr : Nat), j ≤ fl.length ∧ iv = .int .i64 j ∧ v = .slice ar l.length cr ∧ Hid (Bi.Rd wr ar l) ∧ Hid (Bi.mkl b.nl (lftF (fl.take j)) l)) (fun _ iv _ => fl.length - (intOf iv).toNat)
    case atStart => exact ⟨Keep.refl _, 0, l0, _, _, by omega, rfl, rfl, I0, hmk0⟩
    case round =>
      clear I0 hmk0
      obtain ⟨kw, j, l, ar, cr, hj, rfl, rfl, hrd4, hmk⟩ := hrel
      by_cases hjl : j < fl.length
      · have hjc : (j : Int) < (fl.length : Int) := by omega
        obtain ⟨b1, o1, hae, d0, d1, d2⟩ := (hr4.keep kw) j hjl
        have hmem : fl.getD j m0 ∈ fl := by
          rw [List.getD_eq_getElem?_getD, List.getElem?_eq_getElem hjl]
          exact List.getElem_mem hjl
        have hin := b.mks_in 0 _ (hfm.out _ hmem)
        have htn := take_nextM fl j hjl
        obtain ⟨m, hm⟩ : ∃ m, fl.getD j m0 = m := ⟨_, rfl⟩
        rw [hm] at d0 d1 d2 hin htn
        obtain ⟨mi, mf, mt⟩ := m
        simp only at d0 d1 d2 hin
        subst hae
        have kx : Keep wr (wr.alloc (Obj.cells #[.int .i64 (mi : Nat), .int .i64 (mf : Nat), .int .i64 (mt : Nat)] 52)) := (Keep.refl wr).alloc _
        have tm : (wr.alloc (Obj.cells #[.int .i64 (mi : Nat), .int .i64 (mf : Nat), .int .i64 (mt : Nat)] 52)).heap[wr.heap.size]? = some (Obj.cells #[.int .i64 (mi : Nat), .int .i64 (mf : Nat), .int .i64 (mt : Nat)] 52 (0, 0)) := heap_alloc_new wr _
        have hjb : j ≤ 4096 := by omega
        have hmtb : mt ≤ 4096 := by omega
        have hmf : mf ≤ mt := by omega
        have y1 := cell_of_row _ _ 1 _ 52 (0, 0) tm
        simp only [List.getElem?_toArray, List.getElem?_cons_zero, List.getElem?_cons_succ] at y1
        have I1 : Bi.Rd (wr.alloc (Obj.cells #[.int .i64 (mi : Nat), .int .i64 (mf : Nat), .int .i64 (mt : Nat)] 52)) ar l := rd_keep hrd4.out kx
        have hmk1 : Bi.mkl b.nl (lftI (fl.take j) mf mf) l := by rw [lftI_zero]; exact hmk.out
        have kw1 : Keep w4 (wr.alloc (Obj.cells #[.int .i64 (mi : Nat), .int .i64 (mf : Nat), .int .i64 (mt : Nat)] 52)) := kw.trans kx
        replace hm : Hid _ := hm
        replace htn : Hid _ := htn
        replace hin : Hid _ := hin
        replace I1 : Hid _ := I1
        replace hmk1 : Hid _ := hmk1
        replace tm : Hid _ := tm
        clear hmem
        go_wp2_with fail
        obtain ⟨w5, hw5⟩ : ∃ w5, wr.alloc (Obj.cells #[.int .i64 (mi : Nat), .int .i64 (mf : Nat), .int .i64 (mt : Nat)] 52) = w5 := ⟨_, rfl⟩
        rw [hw5] at kx tm I1 kw1 ⊢
        obtain ⟨hz, hhz⟩ : ∃ hz, wr.heap.size = hz := ⟨_, rfl⟩
        rw [hhz] at tm ⊢
        clear hw5 y1 d0 d1 d2 hrd4 hmk kx hhz kw
        clear wr
        go_loopw [10, 14] (fun v iv wr => Keep w5 wr ∧ ∃ (i : Nat) (l : List Nat) (ar : Option Addr) (cr : Nat), mf ≤ i ∧ i ≤ mt ∧ iv = .int .i64 i ∧ v = .slice ar l.length cr ∧ Hid (Bi.Rd wr ar l) ∧ Hid (Bi.mkl b.nl (lftI (fl.take j) mf i) l)) (fun _ iv _ => mt - (intOf iv).toNat)
        case atStart => exact ⟨Keep.refl _, mf, l, _, _, by omega, by omega, rfl, rfl, I1, hmk1⟩
        case round =>
          clear I1 hmk1
          obtain ⟨kw, i, l, ar, cr, hi0, hi, rfl, rfl, hrd5, hmk⟩ := hrel
          have t5 := (kw.block _ (Array.getElem?_eq_some_iff.1 tm.out).1).trans tm.out
          have y2 := cell_of_row _ _ 2 _ 52 (0, 0) t5
          simp only [List.getElem?_toArray, List.getElem?_cons_zero, List.getElem?_cons_succ] at y2
          by_cases hil : i < mt
          · have hic : (i : Int) < (mt : Int) := by omega
            have hP := Bi.rPut_ok ar cr i l false wr (by rw [hmk.out.1]; omega) (by rw [hmk.out.1]; have := hin.out; omega) hrd5.out hmk.out.2.1
            have hmk2 := mkl_put (i := i) hmk.out (by have := hin.out; omega)
            rw [lftI_next _ hi0] at hmk2
            obtain ⟨l2, hl2⟩ : ∃ l2, l.set (i / 64) (Bi.putW false (l.getD (i / 64) 0) (2 ^ (i % 64))) = l2 := ⟨_, rfl⟩
            rw [hl2] at hP hmk2
            replace hmk2 : Hid _ := hmk2
            replace t5 : Hid _ := t5
            replace hl2 : Hid _ := hl2
            replace kw : Hid _ := kw
            go_wp2_with fail
            refine hP.mono ?_
            rintro e w6 ⟨ar2, cr2, rfl, -, hr6, k6⟩
            have k6 : Keep _ _ := k6
            replace hr6 : Hid _ := hr6
            clear hP
            go_wp2_with fail
            exact ⟨⟨Keep.trans kw.out k6, i + 1, l2, ar2, cr2, by omega, by omega, by go_num, rfl, hr6, hmk2⟩, by simp [intOf]; omega⟩
          · have hic : ¬ (i : Int) < (mt : Int) := by omega
            obtain rfl : i = mt := by omega
            have hmk3 : Bi.mkl b.nl (lftF (fl.take (j + 1))) l := by rw [htn.out, ← lftI_all]; exact hmk.out
            have kf := kw1.trans kw
            replace hmk3 : Hid _ := hmk3
            replace t5 : Hid _ := t5
            go_wp2_with fail
            exact ⟨⟨kf, j + 1, l, ar, cr, by omega, by go_num, rfl, hrd5, hmk3⟩, by simp [intOf]; omega⟩
      · have hjc : ¬ (j : Int) < (fl.length : Int) := by omega
        obtain rfl : j = fl.length := by omega
        have hmk2 : Bi.mkl b.nl (lftF (flm L xs (b.mks 0))) l := by
          have := hmk.out
          rw [List.take_length, hfl.out] at this
          exact this
        have kf := k04.trans kw
        replace hmk2 : Hid _ := hmk2
        go_wp2_with fail
        go_ret2
        exact ⟨.slice ar l.length cr, by rw [hF.out]; rfl, fun h => absurd hF.out h, fun b2 _ h2 => ⟨l, ar, ⟨cr, rfl⟩, hrd4.out, by rw [← hb.one h2]; exact hmk2.out⟩, kf⟩
  · have c1 : (lvG L xs.length != 0) = true := by rw [bne_iff_ne]; exact hF
    have h2 := h2 hF
    subst h2
    obtain ⟨a2, c2, rfl, -, -⟩ := hO.shape
    replace hF : Hid _ := hF
    clear hC h1
    go_wp2_with fail
    go_ret2
    exact ⟨.slice none 0 0, rfl, fun _ => rfl, fun b h _ => absurd h hF.out, k02⟩
end Go.Proofs.YtcdcheecaphmgaaDoor
