import Derived.Test.YtaogjiffnebnkaaProg
import Derived.Test.YtaogjiffnebnkaaKM1
import Derived.WalkKit
import Derived.WalkSpells
import Derived.WalkLawsBesides
import Derived.Deep.Draws
import Derived.Deep.QuietTactic
import Derived.BigQuiet
import Derived.Laws.Externs
import Derived.Laws.CopyOwn
import Derived.RangeFuncBox
import Derived.RangeFuncLeaves
import Derived.RangeFuncCalls
import Derived.RangeFuncRecord
import Derived.Below
import Derived.Shelf.Abstract
import Derived.OwnWalkIn
import Derived.TacticsInMore
import Derived.LoopNIn
import Derived.LoopIn
import Derived.Sort.LoopGhostIn
import Derived.Deep.RegionLaw
import Derived.Deep.RegionWith
import Derived.Deep.RegionHeld3
set_option linter.unusedVariables false
set_option linter.unusedSimpArgs false
namespace Go.Proofs.Ytaogjiffnebnkaa.Mk
open Go.RowKit Go.Shelf
theorem Rgt.leaf {L : List Nd} (h : Rgt L) {i : Nat} (hi : i < L.length) (hk : (shp L).K i = false) : (L.getD i nd0).kd = 1 := by
  have hr := h.2 i hi
  simp only [shp, decide_eq_false_iff_not] at hk
  generalize L.getD i nd0 = n at *
  unfold rightB at hr
  by_cases h1 : n.kd = 1
  · exact h1
  · rw [if_neg h1, if_neg (by omega), if_neg (by omega)] at hr
    cases hr
theorem Rgt.inner {L : List Nd} {i : Nat} (hk : (shp L).K i = true) : (L.getD i nd0).kd ≠ 1 := by
  simp only [shp, decide_eq_true_eq] at hk
  omega
theorem BT.mks_len (b : BT) : ∀ a, (b.mks a).length + 1 = b.nl := by
  induction b with
  | leaf i => intro a; rfl
  | node i l r hl hr => intro a; have h1 := hl a; have h2 := hr (a + l.nl); simp only [BT.mks, BT.nl, List.length_cons, List.length_append]; omega
set_option maxRecDepth 100000 in
set_option maxHeartbeats 1000000 in
/-- The marks below a node, behind those that are there. -/
theorem below_any (w0 : World) (out : Int) (a : Option Addr) (cap : Nat) (L : List Nd) (hLn : L.length ≤ 2199023255552) (hR : Rgt L) (hrd : RdN w0 a L) : ∀ {b : BT} {i : Nat}, Bt (shp L) b i → i < L.length → ∀ (l : List (Nat × Nat × Nat)) (v : Value) (wr : World) (fa : Nat), MS w0 out a L.length cap l v wr → l.length + b.nl ≤ 10000 → fa + b.nl ≤ 10000 →
    Calls Try.prog 82 #[.int .i64 (i : Nat), .int .i64 (fa : Nat), .pointer (some ⟨w0.heap.size, 0, none⟩), .pointer (some ⟨w0.heap.size + 1, 0, none⟩), .pointer (some ⟨w0.heap.size + 2, 0, none⟩)] wr fun e w' => ∃ v', e = .returned (.int .i64 ((fa + b.nl : Nat) : Int)) ∧ MS w0 out a L.length cap (l ++ b.mks fa) v' w' := by
  intro b i hb
  induction hb with
  | @leaf i hK =>
    intro hi l v wr fa hM hl hf
    have hkd := hR.leaf hi hK
    obtain ⟨bb, o, ca, cp, rfl, hn⟩ := hrd.keep hM.kp i hi
    have c0 := hn.c0
    rw [hkd] at c0
    have c1 := cell_of_row _ _ 1 _ 54 (0, 0) hM.b1
    simp only [List.getElem?_toArray, List.getElem?_cons_zero, List.getElem?_cons_succ] at c1
    replace hM : Hid _ := hM
    clear hn hkd
    go_enter Try.func82, Try.ntmps82
    go_wp2_with fail
    go_ret
    exact ⟨v, ret_int (by simp only [BT.nl]; go_num), by simpa [BT.mks] using hM.out⟩
  | @node i lb rb hK hlb hrb il ir =>
    intro hi l v wr fa hM hl hf
    have hkd := Rgt.inner (L := L) hK
    obtain ⟨⟨e6, hA, -⟩, e7, hB, -⟩ := hR.kids hi hK
    have cE : (((L.getD i nd0).kd : Int) == 1) = false := by rw [beq_eq_false_iff_ne]; omega
    have pl := lb.nl_pos
    have pr := rb.nl_pos
    have HN := fun (wx : World) (k : Keep w0 wx) => hrd.keep k i hi
    obtain ⟨bb, o, ca, cp, rfl, hn⟩ := hrd.keep hM.kp i hi
    have HC : ∀ wx : World, Keep w0 wx → wx.cell? ⟨bb, o + i * 8 + 6, none⟩ = some (.int .i64 ((shp L).A i : Nat)) ∧ wx.cell? ⟨bb, o + i * 8 + 7, none⟩ = some (.int .i64 ((shp L).B i : Nat)) := by
      intro wx k
      obtain ⟨b2, o2, ca2, cp2, e, hn2⟩ := HN wx k
      simp only [Option.some.injEq, Addr.mk.injEq, and_true] at e
      obtain ⟨rfl, rfl⟩ := e
      exact ⟨by rw [← e6]; exact hn2.c6, by rw [← e7]; exact hn2.c7⟩
    have c0 := hn.c0
    generalize (L.getD i nd0).kd = kd at *
    have c1 := cell_of_row _ _ 1 _ 54 (0, 0) hM.b1
    have c2 := cell_of_row _ _ 0 _ 49 (0, 0) hM.b2
    simp only [List.getElem?_toArray, List.getElem?_cons_zero, List.getElem?_cons_succ] at c1 c2
    obtain ⟨va, vc, rfl, hvc, -⟩ := hM.own.shape
    have hsz := hM.sz
    have hO0 : OwnM _ _ _ _ := own_keep hM.own ((Keep.refl wr).alloc (Obj.cells #[.int .i64 (i : Nat), .int .i64 (fa : Nat), .int .i64 (0 : Nat)] 59))
    replace hM : Hid _ := hM
    replace HC : Hid _ := HC
    replace hO0 : Hid _ := hO0
    replace il : Hid _ := il
    replace ir : Hid _ := ir
    replace e6 : Hid _ := e6
    replace e7 : Hid _ := e7
    have hib : i ≤ 2199023255552 := by omega
    clear hn HN hkd
    go_enter Try.func82, Try.ntmps82
    go_wp2_with (at_builtin; refine wpList_appM (w0.heap.size + 3) _ rfl _ _ rfl l (i, fa, 0) _ ?_ hO0.out (by rw [World.size_alloc]; omega) ⟨wr.heap.size, 0, none⟩ 1 ?_ (newsM wr i fa 0) (by omega) ?_; rotate_left 2; intro v7 w7 hO7 g7; have bx := hM.out.pre g7; have z0 := cell_of_row _ _ 0 _ 49 (0, 0) bx; have q0 := frozen_of_row _ _ 0 _ 49 bx; simp only [List.getElem?_toArray, List.getElem?_cons_zero, List.getElem?_cons_succ] at z0; obtain ⟨a7, c7, rfl, hc7, -⟩ := hO7.shape; replace bx : Hid _ := bx)
    rotate_left 1
    · rfl
    · rfl
    have hJ := hM.out.app hO7 g7
    have hll : (l ++ [(i, fa, 0)]).length = l.length + 1 := by simp
    rw [hll] at hJ
    clear hM hO0 hO7 g7 bx z0 q0 c0 c1 c2 hc7
    generalize w7.setCell ⟨w0.heap.size + 1, 0, none⟩ (.slice a7 (l.length + 1) c7) = w8 at *
    have f8 := cell_of_row _ _ 0 _ 129 (0, 0) hJ.b3
    simp only [List.getElem?_toArray, List.getElem?_cons_zero, List.getElem?_cons_succ] at f8
    have d6 := (HC.out w8 hJ.kp).1
    have hC := il.out hA _ _ w8.drew fa (hJ.keep ((Keep.refl w8).drew)) (by rw [hll]; simp only [BT.nl] at hl; omega) (by simp only [BT.nl] at hf; omega)
    replace hJ : Hid _ := hJ
    clear il
    go_region_with (go_at_call 82; refine hC.mono ?_; rintro e w9 ⟨v9, rfl, hJ9⟩)
    all_goals
      clear hC
      go_simp
      rw [List.append_assoc] at hJ9
      obtain ⟨g, cp9, rfl, z9, q9, hJs⟩ := hJ9.setTo (l := l) (m := lb.mks fa) (i := i) (fa := fa) (c := 0) (fa + lb.nl)
      have f9 := cell_of_row _ _ 0 _ 49 (0, 0) hJ9.b2
      simp only [List.getElem?_toArray, List.getElem?_cons_zero, List.getElem?_cons_succ] at f9
      have hlen9 : (l ++ (i, fa, 0) :: lb.mks fa).length = l.length + 1 + (lb.mks fa).length := by simp; omega
      rw [Int.natCast_add] at hJs
      have hxb : l.length + 1 + (lb.mks fa).length ≤ 20000 := by have := lb.mks_len fa; simp only [BT.nl] at hl; omega
      have hin : (l.length : Int) < ((l.length + 1 + (lb.mks fa).length : Nat) : Int) := by omega
      rw [hlen9] at f9
      replace hJ9 : Hid _ := hJ9
      clear hJ f8 d6
      rw [hlen9] at hJs
      have d7 := (HC.out _ hJs.kp).2
      have f3 := cell_of_row _ _ 0 _ 129 (0, 0) hJs.b3
      simp only [List.getElem?_toArray, List.getElem?_cons_zero, List.getElem?_cons_succ] at f3
      have hC := ir.out hB _ _ (w9.setCell ⟨g, l.length * 3 + 2, none⟩ (.int .i64 ((fa : Int) + (lb.nl : Int)))).drew (fa + lb.nl) (hJs.keep ((Keep.refl _).drew)) (by have := lb.mks_len fa; simp only [List.length_append, List.length_cons]; simp only [BT.nl] at hl; omega) (by simp only [BT.nl] at hf; omega)
      rw [Int.natCast_add] at hC
      clear ir hJ9
      replace hJs : Hid _ := hJs
      go_wp2_with fail
      go_region_with (go_at_call 82; refine hC.mono ?_; rintro e w10 ⟨v10, rfl, hJ10⟩)
      all_goals
        clear hC
        go_simp
        go_wp2_with fail
        go_ret
        refine ⟨v10, ret_int (by simp only [BT.nl]; omega), ?_⟩
        have e : l ++ (BT.node i lb rb).mks fa = (l ++ (i, fa, fa + lb.nl) :: lb.mks fa) ++ rb.mks (fa + lb.nl) := by simp [BT.mks]
        rw [e]
        exact hJ10
end Go.Proofs.Ytaogjiffnebnkaa.Mk
