import Derived.Test.YtpogipmamciciaaDoorW3
import Derived.Test.YtpogipmamciciaaDoorA4
import Derived.Test.YtpogipmamciciaaDoorYS5
import Derived.Test.YtpogipmamciciaaDoorProg
import Derived.WalkKit
import Derived.WalkSpells
import Derived.WalkLawsBesides
import Derived.Deep.Draws
import Derived.Deep.QuietTactic
import Derived.BigQuiet
import Derived.Laws.Externs
import Derived.Laws.CopyOwn
import Derived.Shelf.Abstract
import Derived.Deep.RegionLaw
import Derived.BigRegion
import Derived.Deep.RegionHeld3
import Derived.RangeFuncBox
import Derived.RangeFuncLeaves
import Derived.RangeFuncCalls
import Derived.RangeFuncRecord
import Derived.Below
import Derived.OwnWalkIn
import Derived.TacticsInMore
import Derived.LoopNIn
import Derived.LoopIn
import Derived.Sort.LoopGhostIn
import Derived.Deep.RegionWith
import Derived.Stop.RegionWithIn
import Derived.Laws.MathBits
import Derived.Maps.OwnSet
import Derived.StringKeys
import Derived.RegionTactic
import Derived.Orders
import Derived.OrdersIn
import Derived.RegionIn
import Ieee.Arith
import Derived.Laws.StructEq
import Derived.Lib.BufferWrite
import Derived.Lib.UnsafeStr
import Derived.Laws.IdiomStrings
import Derived.Test.YtpogipmamciciaaDoorYS6
set_option linter.unusedVariables false
set_option linter.unusedSimpArgs false
namespace Go.Proofs.YtpogipmamciciaaDoor
open Go.RowKit Go.Shelf
attribute [local go_sem] run_store_float
/-- What the small ensemble lies in. -/
structure Sm (w : World) (s : Nat) : Prop where
  f : w.heap[s + 1]? = some (.cells #[.string ⟨#[97]⟩] 9 (0, 0))
  b : w.heap[s + 1 + 1]? = some (.cells #[.int .i64 0] 2 (0, 0))
  n : w.heap[s + 1 + 1 + 1]? = some (.cells (nvs lf5 none 0) 40 (0, 0))
  t : w.heap[s + 1 + 1 + 1 + 1]? = some (.cells #[.int .i64 0, .slice (some ⟨s + 1 + 1 + 1, 0, none⟩) 1 1] 33 (0, 0))
theorem Sm.same {w w' : World} {s : Nat} (h : Sm w s) (e : ∀ k, s < k → k ≤ s + 4 → w'.heap[k]? = w.heap[k]?) : Sm w' s :=
  ⟨(e _ (by omega) (by omega)).trans h.f, (e _ (by omega) (by omega)).trans h.b, (e _ (by omega) (by omega)).trans h.n, (e _ (by omega) (by omega)).trans h.t⟩
theorem Sm.keep {w w' : World} {s : Nat} (h : Sm w s) (k : Keep w w') : Sm w' s := ⟨k.at h.f, k.at h.b, k.at h.n, k.at h.t⟩
theorem Sm.rd {w : World} {s : Nat} (h : Sm w s) (hT : Kt w) : EnA w nm1 (some ⟨s + 1, 0, none⟩) sfs (some ⟨s + 1 + 1, 0, none⟩) [0] (some ⟨s + 1 + 1 + 1 + 1, 0, none⟩) sts := small_rd hT h.f h.b h.n h.t nm1 (by decide)
set_option maxRecDepth 100000 in
set_option maxHeartbeats 1000000 in
theorem small_own (w : World) : Calls Tryd.prog 4 #[] w fun e w' => e = .returned (.agg (ev nm1 (some ⟨w.heap.size + 1, 0, none⟩) 1 1 1 (some ⟨w.heap.size + 1 + 1, 0, none⟩) 1 1 (some ⟨w.heap.size + 1 + 1 + 1 + 1, 0, none⟩) 1 1)) ∧ Sm w' w.heap.size ∧ w'.heap.size = w.heap.size + 5 ∧ Keep w w' := by
  obtain ⟨w1, hw1, k1, t1, s1⟩ := boxed w #[.string ⟨#[]⟩, .slice none 0 0, .int .i64 0, .slice none 0 0, .slice none 0 0] 26
  obtain ⟨w2, hw2, k2, t2, s2⟩ := boxed w1 #[.string ⟨#[97]⟩] 9
  obtain ⟨w3, hw3, k3, t3, s3⟩ := boxed w2 #[.int .i64 0] 2
  obtain ⟨w4, hw4, k4, t4, s4⟩ := boxed w3 #[.int .u8 1, .int .i64 5, .int .i64 0, .float .f64 0, .slice none 0 0, .int .u8 0, .int .i64 0, .int .i64 0] 40
  rw [s1] at t2 s2
  rw [s2] at t3 s3
  rw [s3] at t4 s4
  obtain ⟨w5, hw5, k5, t5, s5⟩ := boxed w4 #[.int .i64 0, .slice (some ⟨w.heap.size + 1 + 1 + 1, 0, none⟩) 1 1] 33
  rw [s4] at t5 s5
  have k15 := k2.trans (k3.trans (k4.trans k5))
  have q1 := k15.at t1
  obtain ⟨a0, a1, a2, a3, a4⟩ := cells5 q1
  obtain ⟨f0, f1, f2, f3, f4, -, -, -⟩ := frozen8 q1
  go_enter Tryd.func4, Tryd.ntmps4
  go_wp2_with (first | rw [hw1] | rw [hw2] | rw [hw3] | rw [hw4] | rw [hw5])
  have h := heap5 w5 w.heap.size (.string ⟨#[109]⟩) (.slice (some ⟨w.heap.size + 1, 0, none⟩) 1 1) (.int .i64 1) (.slice (some ⟨w.heap.size + 1 + 1, 0, none⟩) 1 1) (.slice (some ⟨w.heap.size + 1 + 1 + 1 + 1, 0, none⟩) 1 1) q1
  have e := neq5 w5 w.heap.size (.string ⟨#[109]⟩) (.slice (some ⟨w.heap.size + 1, 0, none⟩) 1 1) (.int .i64 1) (.slice (some ⟨w.heap.size + 1 + 1, 0, none⟩) 1 1) (.slice (some ⟨w.heap.size + 1 + 1 + 1 + 1, 0, none⟩) 1 1)
  have kk := keep5 (k1.trans k15) w.heap.size (Nat.le_refl _) (.string ⟨#[109]⟩) (.slice (some ⟨w.heap.size + 1, 0, none⟩) 1 1) (.int .i64 1) (.slice (some ⟨w.heap.size + 1 + 1, 0, none⟩) 1 1) (.slice (some ⟨w.heap.size + 1 + 1 + 1 + 1, 0, none⟩) 1 1)
  refine bodyPost_ret (ret_ens rfl _ _ w.heap.size _ _ _ _ _ rfl h) rfl ⟨rfl, ⟨?_, ?_, ?_, ?_⟩, ?_, kk⟩
  · exact (e _ (by omega)).trans ((k3.trans (k4.trans k5)).at t2)
  · exact (e _ (by omega)).trans ((k4.trans k5).at t3)
  · exact (e _ (by omega)).trans (k5.at t4)
  · exact (e _ (by omega)).trans t5
  · simp only [World.size_setCell]; omega
set_option maxRecDepth 100000 in
set_option maxHeartbeats 1000000 in
theorem at_any {nm : ByteArray} {fa fb : Option Addr} {fs gs : List ByteArray} {cf cg : Nat} {N M : Int} {ba bb : Option Addr} {base bas : List Int} {cb cc : Nat} {ta tb : Option Addr} {ts us : List (Int × List Nd)} {ct cu : Nat} (w : World) (r : Int) (hE : EnA w nm fa fs ba base ta ts) (hF : EnA w nm fb gs bb bas tb us) (h0 : (chB nm fs N base ts).1 = 0) (hr : (chB nm gs M bas us).1 = r) :
    Calls Tryd.prog 6 #[.agg (ev nm fa fs.length cf N ba base.length cb ta ts.length ct), .agg (ev nm fb gs.length cg M bb bas.length cc tb us.length cu), .int .i64 r] w fun e w' => e = .returned (.bool true) ∧ Keep w w' := by
  obtain ⟨w1, hw1, k1, t1, s1⟩ := boxed w (ev nm fa fs.length cf N ba base.length cb ta ts.length ct) 26
  obtain ⟨w2, hw2, k2, t2, s2⟩ := boxed w1 (ev nm fb gs.length cg M bb bas.length cc tb us.length cu) 26
  rw [s1] at t2
  have k12 := k1.trans k2
  have hC := Check_any nm fb gs cg M bb bas cc tb us cu w2 (hF.keep k12)
  generalize hB : chB nm gs M bas us = B at hC hr
  obtain ⟨x0, x1, x2⟩ := B
  simp only at hr
  subst hr
  obtain ⟨y0, y1, y2, y3, y4⟩ := cells5 (k2.at t1)
  obtain ⟨z0, z1, z2, z3, z4⟩ := cells5 t2
  have hV := fun wx (q : Keep w2 wx) => Valid_any nm fa fs cf N ba base cb ta ts ct wx ((hE.keep k12).keep q)
  rw [h0] at hV
  have hV' : ∀ wx, Keep w2 wx → Calls Tryd.prog 9 #[.agg (ev nm fa fs.length cf N ba base.length cb ta ts.length ct)] wx (fun e w' => e = .returned (.bool true) ∧ Keep wx w') := hV
  clear hV
  go_enter Tryd.func6, Tryd.ntmps6
  go_wp2_with (first
    | rw [hw1] | rw [hw2]
    | (go_at_call 8; refine hC.mono ?_; rintro e w3 ⟨rfl, k3⟩
       obtain ⟨w4, w5, hw4, hw5, k5, t5, a0, a1, a2, g0, g1, g2⟩ := boxB w3 (.int .i64 x0) (.int .i64 x1) (.int .i64 x2)
       have k25 := k3.trans k5
       obtain ⟨u0, u1, u2, u3, u4⟩ := cells5 (k25.at (k2.at t1)))
    | (go_at_call 9; refine (hV' w5 k25).mono ?_; rintro e w6 ⟨rfl, k6⟩; obtain ⟨c0, c1, c2, -, -, -⟩ := cells3 (k6.at t5)))
  go_ret
  exact ⟨rfl, k12.trans (k25.trans k6)⟩
end Go.Proofs.YtpogipmamciciaaDoor
set_option linter.unusedVariables false
set_option linter.unusedSimpArgs false
namespace Go.Proofs.YtpogipmamciciaaDoor
open Go.RowKit Go.Shelf
attribute [local go_sem] run_store_float
/-- Some nodes more, at once. -/
theorem appN_many (B : Nat) (w : World) (ty : Nat) (v : Value) (l ys : List (Nd × Option Addr × Nat)) (m : Nat) (hm : ys.length = m) (h0 : 0 < m) (hown : OwnN B w v l) (hB : B ≤ w.heap.size) (ad : Addr) (c : Nat) (hnews : ∀ j u, (UN ys)[j]? = some u → w.cell? (ad.add j) = some u) (hlen : l.length + m ≤ 1759218604441) :
    ∃ v' w', (Builtin.append_ #[31, 31] ty #[v, .slice (some ad) m c]).run Tryd.prog w = .ok v' w' ∧ OwnN B w' v' (l ++ ys) ∧ w.grownBy w' v.ownBlock := by
  obtain ⟨i0, hi, hz0, hz1, hz2⟩ := info_parts i40
  have h1 : ∀ u ∈ UN ys, u.oneCell' = true := UN_one _
  have hl : (UN ys).length = m * 8 := by rw [UN_length, hm]
  obtain ⟨v', w', hr, h2, h3, -⟩ := run_append_own (P := Tryd.prog) w B 31 ty 40 i0 _ 8 80 Tryd.underlying31 hi hz0 hz1 hz2 rfl (by decide) v _ _ hown ad m c (UN ys) hl hnews h1 (by simp only [maxLen]; omega) (by omega) hB
  refine ⟨v', w', hr, ?_, h3⟩
  unfold OwnN; rw [List.length_append, UN_append, hm]; exact h2
theorem wpList_appNs (B : Nat) (w : World) {ops : Array Oper} {rest : List Oper} {o : Oper} {a : Act} {Q : Exit → Act → World → Prop} (hgd : o.guard = none) (s x : Operand)
    (hop : o.op = .call { callee := .builtin .append, args := #[s, x], argTypes := #[31, 31] }) (l ys : List (Nd × Option Addr × Nat)) (m : Nat) (hm : ys.length = m) (h0 : 0 < m) (v : Value) (hs : a.eval s = v) (hown : OwnN B w v l) (hB : B ≤ w.heap.size) (ad : Addr) (c : Nat) (hx : a.eval x = .slice (some ad) m c)
    (hnews : ∀ j u, (UN ys)[j]? = some u → w.cell? (ad.add j) = some u) (hlen : l.length + m ≤ 1759218604441)
    (hK : ∀ v' w', OwnN B w' v' (l ++ ys) → w.grownBy w' v.ownBlock → wpList Tryd.prog ops Q rest (a.put o.dst v') w') :
    wpList Tryd.prog ops Q (o :: rest) a w := by
  refine wpList_plain hgd fun K hK' => ?_
  obtain ⟨v', w', hrun, r1, r2⟩ := appN_many B w o.type v l ys m hm h0 hown hB ad c hnews hlen
  unfold Oper.wp
  simp [execOp, hop, resolve, invoke, builtin, hs, hx, hrun, Result.andThen]
  exact hK' _ _ (hK v' w' r1 r2)
/-- The same inside a drawn region. -/
theorem step_appN {B : Nat} {w : World} {ops : Array Oper} {o : Oper} {a : Act} {K : Act → World → Prop} {Q : Exit → Act → World → Prop} {E : Prop} (hgd : o.guard = none) (s x : Operand)
    (hop : o.op = .call { callee := .builtin .append, args := #[s, x], argTypes := #[31, 31] }) (l ys : List (Nd × Option Addr × Nat)) (m : Nat) (hm : ys.length = m) (h0 : 0 < m) (v : Value) (hs : a.eval s = v) (hown : OwnN B w v l) (hB : B ≤ w.heap.size) (ad : Addr) (c : Nat) (hx : a.eval x = .slice (some ad) m c)
    (hnews : ∀ j u, (UN ys)[j]? = some u → w.cell? (ad.add j) = some u) (hlen : l.length + m ≤ 1759218604441)
    (hK : ∀ v' w', OwnN B w' v' (l ++ ys) → w.grownBy w' v.ownBlock → K (a.put o.dst v') w') :
    if Region.wanted o (yielded ops a.tmps) = true then Oper.wp Tryd.prog o a w K Q else E := by
  have hw : Region.wanted o (yielded ops a.tmps) = true := by simp [Region.wanted, hgd]
  rw [if_pos hw]
  obtain ⟨v', w', hrun, r1, r2⟩ := appN_many B w o.type v l ys m hm h0 hown hB ad c hnews hlen
  unfold Oper.wp
  simp [execOp, hop, resolve, invoke, builtin, hs, hx, hrun, Result.andThen]
  exact hK v' w' r1 r2
/-- Nodes without categories. -/
def bare (L : List Nd) : List (Nd × Option Addr × Nat) := L.map fun n => (n, none, 0)
theorem bare_len (L : List Nd) : (bare L).length = L.length := by simp [bare]
theorem bare_at (L : List Nd) (j : Nat) (h : j < L.length) : (bare L).getD j nt0 = (L.getD j nd0, none, 0) := by simp [bare, List.getD, h]
theorem bare_rd {B : Nat} {w : World} {a : Option Addr} {n c : Nat} {L : List Nd} (h : OwnN B w (.slice a n c) (bare L)) (hc : ∀ j, j < L.length → (L.getD j nd0).cs = [] ∧ (L.getD j nd0).Fit) : n = L.length ∧ n ≤ c ∧ RdN w a L := by
  obtain ⟨a', c', e, hcc, hr⟩ := h.shape
  simp only [Value.slice.injEq] at e
  obtain ⟨rfl, rfl, rfl⟩ := e
  rw [bare_len] at hcc ⊢
  refine ⟨rfl, hcc, ?_⟩
  intro j hj
  obtain ⟨b, rfl, hb⟩ := hr j (by rw [bare_len]; exact hj)
  rw [bare_at L j hj] at hb
  obtain ⟨h1, h2⟩ := hc j hj
  refine ⟨b, 0, none, 0, rfl, ?_⟩
  rw [Nat.zero_add]
  exact ⟨hb 0 _ (by omega) rfl, hb 1 _ (by omega) rfl, hb 2 _ (by omega) rfl, hb 3 _ (by omega) rfl, hb 4 _ (by omega) rfl, hb 5 _ (by omega) rfl, hb 6 _ (by omega) rfl, hb 7 _ (by omega) rfl, by rw [h1]; intro q hq; simp at hq, by rw [h1]; exact Nat.le_refl _, by rw [h1]; simp, h2⟩
theorem comb_fit (m : Nat) (hm : m ≤ 100000) (j : Nat) (hj : j < (comb m).length) : ((comb m).getD j nd0).cs = [] ∧ ((comb m).getD j nd0).Fit := by
  rw [comb_len] at hj
  rw [comb_at m j hj]
  split
  · refine ⟨rfl, ⟨by show 2 < 256; omega, by show (-9223372036854775808 : Int) ≤ 0 ∧ (0 : Int) ≤ 9223372036854775807; omega, by show (-9223372036854775808 : Int) ≤ 0 ∧ (0 : Int) ≤ 9223372036854775807; omega, by show 4607182418800017408 < 18446744073709551616; omega, by simp [cin], by show 1 < 256; omega, ?_, ?_⟩⟩
    · show -9223372036854775808 ≤ ((2 * (j / 2) + 1 : Nat) : Int) ∧ ((2 * (j / 2) + 1 : Nat) : Int) ≤ 9223372036854775807; omega
    · show -9223372036854775808 ≤ ((2 * (j / 2) + 2 : Nat) : Int) ∧ ((2 * (j / 2) + 2 : Nat) : Int) ≤ 9223372036854775807; omega
  · exact ⟨rfl, by decide, by decide, by decide, by decide, by simp [clf], by decide, by decide, by decide⟩
theorem cmb_next (i : Nat) : bare (cmb (i + 1)) = bare (cmb i) ++ [(cin i, none, 0), (clf, none, 0)] := by simp [bare, cmb]
theorem comb_end (m : Nat) : bare (comb m) = bare (cmb m) ++ [(clf, none, 0)] := by simp [bare, comb]
set_option maxRecDepth 100000 in
set_option maxHeartbeats 1000000 in
theorem comb_any (m : Nat) (hm : m ≤ 100000) (w : World) : Calls Tryd.prog 7 #[.int .i64 ((m : Int) + 1)] w fun e w' => ∃ a c, e = .returned (.agg #[.int .i64 0, .slice a (2 * m + 1) c]) ∧ OwnN (w.heap.size + 1) w' (.slice a (2 * m + 1) c) (bare (comb m)) ∧ Keep w w' := by
  obtain ⟨w1, hw1, k1, t1, s1⟩ := boxed w #[.int .i64 0, .slice none 0 0] 33
  go_enter Tryd.func7, Tryd.ntmps7
  go_wp2_with (rw [hw1])
  go_loopw [3, 4] (fun v iv wr => ∃ i : Nat, iv = .int .i64 i ∧ i ≤ m ∧ OwnN w1.heap.size wr v (bare (cmb i)) ∧ Keep w1 wr) (fun _ iv _ => m - (intOf iv).toNat)
  case atStart => exact ⟨0, rfl, by omega, OwnN.nil _ _, Keep.refl w1⟩
  case round =>
    obtain ⟨i, rfl, hi, hO, kw⟩ := hrel
    have hKl : (bare (cmb i)).length + 2 ≤ 1759218604441 := by rw [bare_len, cmb_len]; omega
    have hBw := kw.le
    by_cases hil : i < m
    · have hic : (i : Int) + 1 < (m : Int) + 1 := by omega
      go_wp2_with (at_builtin; refine wpList_appNs w1.heap.size _ rfl _ _ rfl (bare (cmb i)) [(cin i, none, 0), (clf, none, 0)] 2 rfl (by omega) u3 ?_ (hO.keep ((Keep.refl wr).alloc _)) (Nat.le_trans hBw ((Keep.refl wr).alloc _).le) ⟨wr.heap.size, 0, none⟩ 2 ?_ ?_ hKl ?_; rotate_left 3; intro v5 w5 hO5 g5)
      · have k5 : Keep w1 w5 := Below.grown (kw.alloc _) g5 (Nat.le_trans hBw ((Keep.refl wr).alloc _).le) (fun b hb => (hO.block hb).1)
        rw [← cmb_next] at hO5
        exact ⟨⟨i + 1, by go_num, by omega, hO5, k5⟩, by simp [intOf]; omega⟩
      · rfl
      · rfl
      · intro j u hj
        rw [Go.WideShapes.add_plain, Nat.zero_add, cell_of_row _ _ _ _ 40 (0, 0) (heap_alloc_new wr _)]
        show (List.toArray (UN [(cin i, none, 0), (clf, none, 0)]))[j]? = some u
        rw [List.getElem?_toArray]
        exact hj
    · have hic : ¬ (i : Int) + 1 < (m : Int) + 1 := by omega
      obtain rfl : i = m := by omega
      have hg1 : w.heap.size < w1.heap.size := by omega
      go_wp2_with (at_builtin; refine wpList_appNs w1.heap.size _ rfl _ _ rfl (bare (cmb i)) [(clf, none, 0)] 1 rfl (by omega) u3 ?_ (hO.keep ((Keep.refl wr).alloc _)) (Nat.le_trans hBw ((Keep.refl wr).alloc _).le) ⟨wr.heap.size, 0, none⟩ 1 ?_ ?_ (by omega) ?_; rotate_left 3; intro v5 w5 hO5 g5
                   obtain ⟨a5, c5, rfl, hc5, -⟩ := hO5.shape
                   have k5 : Keep w1 w5 := Below.grown (kw.alloc _) g5 (Nat.le_trans hBw ((Keep.refl wr).alloc _).le) (fun b hb => (hO.block hb).1)
                   have b5 := k5.at t1
                   obtain ⟨x0, x1, f0, f1⟩ := cells2 b5)
      · have hl : (bare (cmb i)).length + 1 = 2 * i + 1 := by rw [bare_len, cmb_len]
        rw [← comb_end, bare_len, comb_len] at hO5
        rw [hl]
        have e1 := heap_setCell_same w5 w.heap.size 0 _ 33 (.int .i64 0) b5
        have e2 := heap_setCell_same _ w.heap.size 1 _ 33 (.slice a5 (2 * i + 1) c5) e1
        have hne : ∀ k, k ≠ w.heap.size → ((w5.setCell ⟨w.heap.size, 0, none⟩ (.int .i64 0)).setCell ⟨w.heap.size, 1, none⟩ (.slice a5 (2 * i + 1) c5)).heap[k]? = w5.heap[k]? := fun k hk => by rw [neq_set _ _ _ _ k hk, neq_set _ _ _ _ k hk]
        refine bodyPost_ret (results_cell_row rfl _ _ w.heap.size 33 _ (0, 0) _ rfl e2 Tryd.underlying33 rfl (by kernel_rfl)) rfl ⟨a5, c5, rfl, ?_, ?_⟩
        · rw [s1] at hO5
          exact hO5.same (fun b hb => hne b (by have := (hO5.block hb).1; omega))
        · exact ((k1.trans k5).setCell (p := ⟨w.heap.size, 0, none⟩) (Nat.le_refl _) _).setCell (p := ⟨w.heap.size, 1, none⟩) (Nat.le_refl _) _
      · exact fun j u hj => hj
end Go.Proofs.YtpogipmamciciaaDoor
set_option linter.unusedVariables false
set_option linter.unusedSimpArgs false
namespace Go.Proofs.YtpogipmamciciaaDoor
open Go.RowKit Go.Shelf
/-- An ensemble whose trees are being chosen, in its box. -/
structure FJt (w4 : World) (g : Nat) (h0 h1 h2 h3 : Value) (us : List (Int × List Nd)) (wr : World) (v : Value) (K : List (Int × Option Addr × Nat × Nat)) : Prop where
  len : K.length = us.length
  eq : ∀ j, j < us.length → (K.getD j tt0).1 = (us.getD j (0, [])).1 ∧ (K.getD j tt0).2.2.1 = (us.getD j (0, [])).2.length ∧ (us.getD j (0, [])).2.length ≤ (K.getD j tt0).2.2.2 ∧ RdN w4 (K.getD j tt0).2.1 (us.getD j (0, [])).2 ∧ (us.getD j (0, [])).2.length ≤ 2199023255552 ∧ (-9223372036854775808 ≤ (us.getD j (0, [])).1 ∧ (us.getD j (0, [])).1 ≤ 9223372036854775807)
  own : OwnT (g + 1) wr v K
  kp : Keep w4 wr
  gl : w4.heap.size ≤ g
  bx : wr.heap[g]? = some (.cells #[h0, h1, h2, h3, v] 26 (0, 0))
theorem getD_snocU (l : List (Int × List Nd)) (x : Int × List Nd) (j : Nat) : (l ++ [x]).getD j (0, []) = if j = l.length then x else l.getD j (0, []) := by
  unfold List.getD
  by_cases h : j < l.length
  · rw [List.getElem?_append_left h, if_neg (by omega)]
  · rw [List.getElem?_append_right (by omega)]
    by_cases e : j = l.length
    · rw [if_pos e, e]; simp
    · rw [if_neg e, List.getElem?_eq_none (by simp; omega), List.getElem?_eq_none (by omega)]
theorem FJt.start {w4 wr : World} {g : Nat} {h0 h1 h2 h3 : Value} (kp : Keep w4 wr) (gl : w4.heap.size ≤ g) (bx : wr.heap[g]? = some (.cells #[h0, h1, h2, h3, .slice none 0 0] 26 (0, 0))) : FJt w4 g h0 h1 h2 h3 [] wr (.slice none 0 0) [] :=
  ⟨rfl, fun j hj => by simp at hj, OwnT.nil _ _, kp, gl, bx⟩
theorem FJt.keep {w4 wr w' : World} {g : Nat} {h0 h1 h2 h3 : Value} {us : List (Int × List Nd)} {v : Value} {K : List (Int × Option Addr × Nat × Nat)} (h : FJt w4 g h0 h1 h2 h3 us wr v K) (k : Keep wr w') : FJt w4 g h0 h1 h2 h3 us w' v K :=
  ⟨h.len, h.eq, h.own.keep k, h.kp.trans k, h.gl, k.at h.bx⟩
theorem FJt.set1 {w4 wr : World} {g : Nat} {h0 h1 h2 h3 : Value} {us : List (Int × List Nd)} {v : Value} {K : List (Int × Option Addr × Nat × Nat)} (h : FJt w4 g h0 h1 h2 h3 us wr v K) (u : Value) : FJt w4 g h0 u h2 h3 us (wr.setCell ⟨g, 1, none⟩ u) v K := by
  refine ⟨h.len, h.eq, h.own.same (fun b hb => neq_set wr _ _ _ b (by have := (h.own.block hb).1; omega)), h.kp.setCell (p := ⟨g, 1, none⟩) h.gl _, h.gl, ?_⟩
  have := heap_setCell_same wr g 1 _ 26 u h.bx
  simpa using this
/-- One tree more. -/
theorem FJt.step {w4 wr w7 : World} {g : Nat} {h0 h1 h2 h3 : Value} {us : List (Int × List Nd)} {v v' : Value} {K : List (Int × Option Addr × Nat × Nat)} {ob : Obj} {out : Int} {L : List Nd} {an : Option Addr} {cn : Nat} (h : FJt w4 g h0 h1 h2 h3 us wr v K)
    (hc : L.length ≤ cn) (hn : RdN w4 an L) (hl : L.length ≤ 2199023255552) (hf : -9223372036854775808 ≤ out ∧ out ≤ 9223372036854775807) (hO : OwnT (g + 1) w7 v' (K ++ [(out, an, L.length, cn)])) (g7 : (wr.drew.alloc ob).grownBy w7 v.ownBlock) :
    FJt w4 g h0 h1 h2 h3 (us ++ [(out, L)]) (w7.setCell ⟨g, 4, none⟩ v') v' (K ++ [(out, an, L.length, cn)]) ∧ w7.heap[g]? = some (.cells #[h0, h1, h2, h3, v] 26 (0, 0)) := by
  have hlt : ∀ b, v.ownBlock = some b → g + 1 ≤ b := fun b hb => (h.own.block hb).1
  have hg : g < wr.heap.size := lt_of_at h.bx
  have kd : Keep w4 (wr.drew.alloc ob) := (h.kp.drew).alloc _
  have e1 : w7.heap[g]? = some (.cells #[h0, h1, h2, h3, v] 26 (0, 0)) := by
    rw [g7.block g (by rw [World.size_alloc]; show g < wr.heap.size + 1; omega) (fun e => by have := hlt g e.symm; omega)]
    exact (((Keep.refl wr).drew).alloc ob).at h.bx
  refine ⟨⟨by simp [h.len], ?_, ?_, ?_, h.gl, ?_⟩, e1⟩
  · intro j hj
    rw [getD_snocT, getD_snocU, h.len]
    by_cases e : j = us.length
    · rw [if_pos e, if_pos e]; exact ⟨rfl, rfl, hc, hn, hl, hf⟩
    · rw [if_neg e, if_neg e]; exact h.eq j (by simp at hj; omega)
  · exact hO.same (fun b hb => neq_set w7 _ _ _ b (by have := (hO.block hb).1; omega))
  · exact Keep.setCell (Below.grown kd g7 kd.le (fun b hb => by have := hlt b hb; have := h.gl; omega)) (p := ⟨g, 4, none⟩) h.gl _
  · have := heap_setCell_same w7 g 4 _ 26 v' e1
    simpa using this
theorem FJt.rdT {w4 wr : World} {g : Nat} {h0 h1 h2 h3 : Value} {us : List (Int × List Nd)} {v : Value} {K : List (Int × Option Addr × Nat × Nat)} (h : FJt w4 g h0 h1 h2 h3 us wr v K) : ∃ ta ct, v = .slice ta us.length ct ∧ RdT wr ta us := by
  obtain ⟨ta, ct, rfl, hc, hr⟩ := h.own.shape
  refine ⟨ta, ct, by rw [h.len], ?_⟩
  intro j hj
  obtain ⟨b, rfl, hb⟩ := hr j (by rw [h.len]; exact hj)
  obtain ⟨e1, e2, e3, e4, e5, e6⟩ := h.eq j hj
  have c0 := hb 0 _ (by omega) rfl
  have c1 := hb 1 _ (by omega) rfl
  rw [e1] at c0
  rw [e2] at c1
  exact ⟨b, 0, _, _, rfl, by rw [Nat.zero_add]; exact c0, by rw [Nat.zero_add]; exact c1, e4.keep h.kp, e3, e5, e6⟩
/-- A list of yes and no that can be read. -/
def RdO (w : World) (a : Option Addr) (l : List Bool) : Prop := ∀ j, j < l.length → ∃ b o, a = some ⟨b, o, none⟩ ∧ w.cell? ⟨b, o + j, none⟩ = some (.bool (l.getD j false))
theorem RdO.keep {w w' : World} {a : Option Addr} {l : List Bool} (h : RdO w a l) (k : Keep w w') : RdO w' a l := by
  intro j hj
  obtain ⟨b, o, e, hc⟩ := h j hj
  exact ⟨b, o, e, k.cell hc⟩
end Go.Proofs.YtpogipmamciciaaDoor
set_option linter.unusedVariables false
set_option linter.unusedSimpArgs false
namespace Go.Proofs.YtpogipmamciciaaDoor
open Go.RowKit Go.Shelf
/-- Some trees more, at once. -/
theorem appT_many (B : Nat) (w : World) (ty : Nat) (v : Value) (l ys : List (Int × Option Addr × Nat × Nat)) (m : Nat) (hm : ys.length = m) (h0 : 0 < m) (hown : OwnT B w v l) (hB : B ≤ w.heap.size) (ad : Addr) (c : Nat) (hnews : ∀ j u, (UT ys)[j]? = some u → w.cell? (ad.add j) = some u) (hlen : l.length + m ≤ 4398046511104) :
    ∃ v' w', (Builtin.append_ #[24, 24] ty #[v, .slice (some ad) m c]).run Tryd.prog w = .ok v' w' ∧ OwnT B w' v' (l ++ ys) ∧ w.grownBy w' v.ownBlock := by
  obtain ⟨i0, hi, hz0, hz1, hz2⟩ := info_parts i24
  have h1 : ∀ u ∈ UT ys, u.oneCell' = true := UT_one _
  have hl : (UT ys).length = m * 2 := by rw [UT_length, hm]
  obtain ⟨v', w', hr, h2, h3, -⟩ := run_append_own (P := Tryd.prog) w B 24 ty 33 i0 _ 2 32 Tryd.underlying24 hi hz0 hz1 hz2 rfl (by decide) v _ _ hown ad m c (UT ys) hl hnews h1 (by simp only [maxLen]; omega) (by omega) hB
  refine ⟨v', w', hr, ?_, h3⟩
  unfold OwnT; rw [List.length_append, UT_append, hm]; exact h2
theorem step_appTs {B : Nat} {w : World} {ops : Array Oper} {o : Oper} {a : Act} {K : Act → World → Prop} {Q : Exit → Act → World → Prop} {E : Prop} (hgd : o.guard = none) (s x : Operand)
    (hop : o.op = .call { callee := .builtin .append, args := #[s, x], argTypes := #[24, 24] }) (l ys : List (Int × Option Addr × Nat × Nat)) (m : Nat) (hm : ys.length = m) (h0 : 0 < m) (v : Value) (hs : a.eval s = v) (hown : OwnT B w v l) (hB : B ≤ w.heap.size) (ad : Addr) (c : Nat) (hx : a.eval x = .slice (some ad) m c)
    (hnews : ∀ j u, (UT ys)[j]? = some u → w.cell? (ad.add j) = some u) (hlen : l.length + m ≤ 4398046511104)
    (hK : ∀ v' w', OwnT B w' v' (l ++ ys) → w.grownBy w' v.ownBlock → K (a.put o.dst v') w') :
    if Region.wanted o (yielded ops a.tmps) = true then Oper.wp Tryd.prog o a w K Q else E := by
  have hw : Region.wanted o (yielded ops a.tmps) = true := by simp [Region.wanted, hgd]
  rw [if_pos hw]
  obtain ⟨v', w', hrun, r1, r2⟩ := appT_many B w o.type v l ys m hm h0 hown hB ad c hnews hlen
  unfold Oper.wp
  simp [execOp, hop, resolve, invoke, builtin, hs, hx, hrun, Result.andThen]
  exact hK v' w' r1 r2
theorem OwnT.news {B : Nat} {w : World} {a : Addr} {n c : Nat} {K : List (Int × Option Addr × Nat × Nat)} (h : OwnT B w (.slice (some a) n c) K) : ∀ j u, (UT K)[j]? = some u → w.cell? (a.add j) = some u := by
  rcases h.2 with ⟨h1, -⟩ | ⟨g, cap, cur, hv, -⟩
  · cases h1
  · simp only [Value.slice.injEq, Option.some.injEq] at hv
    obtain ⟨rfl, rfl, rfl⟩ := hv
    exact World.ownsRow.cells (v := .slice (some ⟨g, 0, none⟩) K.length c) h (g := g) rfl
/-- The same tree again and again. -/
abbrev repK (k n : Nat) : List (Int × Option Addr × Nat × Nat) := List.replicate k (0, some ⟨n, 0, none⟩, 1, 1)
theorem repK_next (k n : Nat) : repK k n ++ [(0, some ⟨n, 0, none⟩, 1, 1)] = repK (k + 1) n := by simp [repK, List.replicate_succ']
theorem rep_rdT {B : Nat} {w : World} {a : Option Addr} {m k c n : Nat} (h : OwnT B w (.slice a m c) (repK k n)) (hn : w.heap[n]? = some (.cells (nvs lf5 none 0) 40 (0, 0))) : m = k ∧ RdT w a (List.replicate k (0, [lf5])) := by
  obtain ⟨a', c', e, hc, hr⟩ := h.shape
  simp only [Value.slice.injEq] at e
  obtain ⟨rfl, rfl, rfl⟩ := e
  rw [List.length_replicate] at hr ⊢
  refine ⟨rfl, ?_⟩
  intro j hj
  rw [List.length_replicate] at hj
  obtain ⟨b, rfl, hb⟩ := hr j hj
  have e1 : (repK k n).getD j tt0 = (0, some ⟨n, 0, none⟩, 1, 1) := by rw [List.getD, List.getElem?_replicate, if_pos hj]; rfl
  have e2 : (List.replicate k ((0 : Int), [lf5])).getD j (0, []) = (0, [lf5]) := by rw [List.getD, List.getElem?_replicate, if_pos hj]; rfl
  rw [e1] at hb
  rw [e2]
  obtain ⟨c0, c1, c2, c3, c4, c5, c6, c7⟩ := cells8 hn
  refine ⟨b, 0, some ⟨n, 0, none⟩, 1, rfl, by rw [Nat.zero_add]; exact hb 0 _ (by omega) rfl, by rw [Nat.zero_add]; exact hb 1 _ (by omega) rfl, ?_, by decide⟩
  intro i hi
  match i, hi with
  | 0, _ => exact ⟨n, 0, none, 0, rfl, ⟨c0, c1, c2, c3, c4, c5, c6, c7, by intro q hq; exact absurd hq (by simp [lf5]), by decide, by decide, by constructor <;> decide⟩⟩
/-- Five cells written over. -/
theorem put5 {w : World} {g : Nat} {x0 x1 x2 x3 x4 : Value} (h : w.heap[g]? = some (.cells #[x0, x1, x2, x3, x4] 26 (0, 0))) (v0 v1 v2 v3 v4 : Value) :
    ∃ w', (((((w.setCell ⟨g, 0, none⟩ v0).setCell ⟨g, 1, none⟩ v1).setCell ⟨g, 2, none⟩ v2).setCell ⟨g, 3, none⟩ v3).setCell ⟨g, 4, none⟩ v4) = w' ∧ w'.heap[g]? = some (.cells #[v0, v1, v2, v3, v4] 26 (0, 0)) ∧ (∀ k, k ≠ g → w'.heap[k]? = w.heap[k]?) ∧ w'.heap.size = w.heap.size ∧ (∀ w0, Keep w0 w → w0.heap.size ≤ g → Keep w0 w') :=
  ⟨_, rfl, heap5 w g v0 v1 v2 v3 v4 h, fun k hk => neq5 w g v0 v1 v2 v3 v4 k hk, by simp only [World.size_setCell], fun w0 k hg => keep5 k g hg v0 v1 v2 v3 v4⟩
/-- One cell written over. -/
theorem put1 {w : World} {g i T : Nat} {cs : Array Value} (h : w.heap[g]? = some (.cells cs T (0, 0))) (v : Value) :
    ∃ w', w.setCell ⟨g, i, none⟩ v = w' ∧ w'.heap[g]? = some (.cells (cs.setIfInBounds i v) T (0, 0)) ∧ (∀ k, k ≠ g → w'.heap[k]? = w.heap[k]?) ∧ w'.heap.size = w.heap.size ∧ (∀ w0, Keep w0 w → w0.heap.size ≤ g → Keep w0 w') :=
  ⟨_, rfl, heap_setCell_same w g i _ T v h, fun k hk => neq_set w g i v k hk, by simp only [World.size_setCell], fun w0 k hg => k.setCell (p := ⟨g, i, none⟩) hg v⟩
end Go.Proofs.YtpogipmamciciaaDoor
set_option linter.unusedVariables false
set_option linter.unusedSimpArgs false
namespace Go.Proofs.YtpogipmamciciaaDoor
open Go.RowKit Go.Shelf
theorem sm_f {w : World} {f : Nat} (h : w.heap[f]? = some (.cells #[.string ⟨#[97]⟩] 9 (0, 0))) : RdS w (some ⟨f, 0, none⟩) sfs := by
  obtain ⟨f0, -⟩ := cells1 h
  intro j hj
  match j, hj with
  | 0, _ => exact ⟨f, 0, rfl, f0⟩
theorem sm_b {w : World} {b : Nat} {x : Int} (h : w.heap[b]? = some (.cells #[.int .i64 x] 2 (0, 0))) : RdI w (some ⟨b, 0, none⟩) [x] := by
  obtain ⟨f0, -⟩ := cells1 h
  intro j hj
  match j, hj with
  | 0, _ => exact ⟨b, 0, rfl, f0⟩
theorem sfz : ∀ j, j < sfs.length → (sfs.getD j ByteArray.empty).size ≤ 281474976710656 := by
  intro j hj
  match j, hj with
  | 0, _ => decide
theorem cell_same {w w' : World} {b o : Nat} (h : w'.heap[b]? = w.heap[b]?) : w'.cell? ⟨b, o, none⟩ = w.cell? ⟨b, o, none⟩ := World.cell?_of_block (w := w) h
theorem cell_set_ne {w : World} {g i b o : Nat} {v : Value} (h : b ≠ g) : (w.setCell ⟨g, i, none⟩ v).cell? ⟨b, o, none⟩ = w.cell? ⟨b, o, none⟩ := World.cell?_of_block (w := w) (neq_set w g i v b h)
theorem own_empty {B g : Nat} {w : World} (h : w.heap[g]? = some (.cells #[] 33 (0, 0))) (hB : B ≤ g) : OwnT B w (.slice (some ⟨g, 0, none⟩) 0 0) [] := ⟨rfl, .inr ⟨g, 0, #[], rfl, hB, h, Nat.le_refl _, by simp [maxLen], rfl, rfl⟩⟩
theorem newsT1 {w : World} {g n : Nat} (h : w.heap[g]? = some (.cells #[Value.int IntKind.i64 0, Value.slice (some ⟨n, 0, none⟩) 1 1] 33 (0, 0))) : ∀ j u, (UT [(0, some ⟨n, 0, none⟩, 1, 1)])[j]? = some u → w.cell? ((⟨g, 0, none⟩ : Addr).add j) = some u := by
  intro j u hj
  rw [Go.WideShapes.add_plain, Nat.zero_add, cell_of_row _ _ _ _ 33 (0, 0) h]
  simpa [UT] using hj
theorem EnA.mk1 {w : World} {f b : Nat} {x : Int} {ta : Option Addr} {ts : List (Int × List Nd)} (hT : Kt w) (hf : w.heap[f]? = some (.cells #[.string ⟨#[97]⟩] 9 (0, 0))) (hb : w.heap[b]? = some (.cells #[.int .i64 x] 2 (0, 0))) (hx : -9223372036854775808 ≤ x ∧ x ≤ 9223372036854775807) (htl : ts.length ≤ 4398046511104) (htn : ∀ j, j < ts.length → (ts.getD j (0, [])).2.length ≤ 1759218604441) (hrt : RdT w ta ts) : EnA w nm1 (some ⟨f, 0, none⟩) sfs (some ⟨b, 0, none⟩) [x] ta ts :=
  ⟨hT, by decide, sm_f hf, by decide, sfz, ⟨by simp, sm_b hb, by intro y hy; simp at hy; rw [hy]; exact hx, htl, htn, hrt⟩⟩
theorem rep_n (k : Nat) : ∀ j, j < (List.replicate k ((0 : Int), [lf5])).length → ((List.replicate k ((0 : Int), [lf5])).getD j (0, [])).2.length ≤ 1759218604441 := by
  intro j hj
  rw [List.length_replicate] at hj
  rw [List.getD, List.getElem?_replicate, if_pos hj]
  decide
theorem one_n (L : List Nd) (h : L.length ≤ 1759218604441) : ∀ j, j < [((0 : Int), L)].length → ([((0 : Int), L)].getD j (0, [])).2.length ≤ 1759218604441 := by
  intro j hj
  match j, hj with
  | 0, _ => exact h
theorem one_rdT {w : World} {t c : Nat} {a : Option Addr} {L : List Nd} (ht : w.heap[t]? = some (.cells #[.int .i64 0, .slice a L.length c] 33 (0, 0))) (hr : RdN w a L) (hc : L.length ≤ c) (hl : L.length ≤ 2199023255552) : RdT w (some ⟨t, 0, none⟩) [(0, L)] := by
  obtain ⟨t0, t1, -, -⟩ := cells2 ht
  intro j hj
  match j, hj with
  | 0, _ => exact ⟨t, 0, a, c, rfl, t0, t1, hr, hc, hl, by show (-9223372036854775808 : Int) ≤ 0 ∧ (0 : Int) ≤ 9223372036854775807; decide⟩
/-- Two cells written over. -/
theorem put2 {w : World} {g T : Nat} {x0 x1 : Value} (h : w.heap[g]? = some (.cells #[x0, x1] T (0, 0))) (v0 v1 : Value) :
    ∃ w', ((w.setCell ⟨g, 0, none⟩ v0).setCell ⟨g, 1, none⟩ v1) = w' ∧ w'.heap[g]? = some (.cells #[v0, v1] T (0, 0)) ∧ (∀ k, k ≠ g → w'.heap[k]? = w.heap[k]?) ∧ w'.heap.size = w.heap.size ∧ (∀ w0, Keep w0 w → w0.heap.size ≤ g → Keep w0 w') := by
  have a0 := heap_setCell_same w g 0 _ T v0 h
  have a1 := heap_setCell_same _ g 1 _ T v1 a0
  exact ⟨_, rfl, by simpa using a1, fun k hk => by rw [neq_set _ _ _ _ k hk, neq_set _ _ _ _ k hk], by simp only [World.size_setCell], fun w0 k hg => (k.setCell (p := ⟨g, 0, none⟩) hg v0).setCell (p := ⟨g, 1, none⟩) hg v1⟩
def lf0 : Nd := ⟨1, 0, 0, 0, [], 0, 0, 0⟩
theorem newsN0 {w : World} {g : Nat} (h : w.heap[g]? = some (.cells #[.int .u8 1, .int .i64 0, .int .i64 0, .float .f64 0, .slice none 0 0, .int .u8 0, .int .i64 0, .int .i64 0] 40 (0, 0))) : ∀ j u, (UN [(lf0, none, 0)])[j]? = some u → w.cell? ((⟨g, 0, none⟩ : Addr).add j) = some u := by
  intro j u hj
  rw [Go.WideShapes.add_plain, Nat.zero_add, cell_of_row _ _ _ _ 40 (0, 0) h]
  show (List.toArray (UN [(lf0, none, 0)]))[j]? = some u
  rw [List.getElem?_toArray]
  exact hj
theorem bare_snoc (L : List Nd) (n : Nd) : bare L ++ [(n, none, 0)] = bare (L ++ [n]) := by simp [bare]
theorem comb0_fit (m : Nat) (hm : m ≤ 100000) (j : Nat) (hj : j < (comb m ++ [lf0]).length) : ((comb m ++ [lf0]).getD j nd0).cs = [] ∧ ((comb m ++ [lf0]).getD j nd0).Fit := by
  by_cases h : j < (comb m).length
  · rw [show (comb m ++ [lf0]).getD j nd0 = (comb m).getD j nd0 by unfold List.getD; rw [List.getElem?_append_left h]]
    exact comb_fit m hm j h
  · rw [show (comb m ++ [lf0]).getD j nd0 = lf0 by
      unfold List.getD
      rw [List.getElem?_append_right (by omega), show j - (comb m).length = 0 by simp at hj; omega]
      rfl]
    exact ⟨rfl, by decide, by decide, by decide, by decide, by simp [lf0], by decide, by decide, by decide⟩
theorem made_i64 (n : Nat) (hn : n ≤ 1000) (w : World) : (Instr.makeSlice 23 (.int .i64 (n : Int)) (.int .i64 (n : Int))).run Tryd.prog w = .ok (.slice (some ⟨w.heap.size, 0, none⟩) n n) (w.alloc (.cells (madeCells (Value.int .i64 0).cells n) 2)) := by
  obtain ⟨i0, hi, hz0, hz1, hz2⟩ := info_parts i2
  have h := run_make (P := Tryd.prog) w 23 2 i0 _ Tryd.underlying23 hi hz0 .i64 .i64 (n : Int) (n : Int) (by omega) (by omega) (by rw [hz2]; omega) (by omega)
  rw [hz1] at h
  simpa using h
theorem made_rd {w : World} {g n : Nat} (h : w.heap[g]? = some (.cells (madeCells (Value.int .i64 0).cells n) 2 (0, 0))) : RdI w (some ⟨g, 0, none⟩) (List.replicate n 0) := by
  intro j hj
  rw [List.length_replicate] at hj
  refine ⟨g, 0, rfl, ?_⟩
  have e : (madeCells (Value.int .i64 0).cells n).toList = List.replicate n (.int .i64 0) := toList_madeCells_one (.int .i64 0) n
  rw [Nat.zero_add, cell_of_row _ _ _ _ 2 (0, 0) h, ← Array.getElem?_toList, e, List.getElem?_replicate, if_pos hj, List.getD, List.getElem?_replicate, if_pos hj]
  rfl
theorem EnA.based {w : World} {nm : ByteArray} {fa : Option Addr} {fs : List ByteArray} {ba bb ta : Option Addr} {base : List Int} {ts : List (Int × List Nd)} {n : Nat} (h : EnA w nm fa fs ba base ta ts) (hn : n ≤ 1000) (hr : RdI w bb (List.replicate n 0)) : EnA w nm fa fs bb (List.replicate n 0) ta ts :=
  ⟨h.tb, h.ns, h.rf, h.fl, h.fz, ⟨by rw [List.length_replicate]; omega, hr, fun x hx => by rw [(List.mem_replicate.1 hx).2]; decide, h.er.tl, h.er.tn, h.er.rt⟩⟩
theorem EnA.based1 {w : World} {nm : ByteArray} {fa : Option Addr} {fs : List ByteArray} {ba bb ta : Option Addr} {base : List Int} {ts : List (Int × List Nd)} {x : Int} (h : EnA w nm fa fs ba base ta ts) (hx : -9223372036854775808 ≤ x ∧ x ≤ 9223372036854775807) (hr : RdI w bb [x]) : EnA w nm fa fs bb [x] ta ts :=
  ⟨h.tb, h.ns, h.rf, h.fl, h.fz, ⟨by simp, hr, fun y hy => by simp at hy; rw [hy]; exact hx, h.er.tl, h.er.tn, h.er.rt⟩⟩
theorem sm_t {w : World} {n t : Nat} (hn : w.heap[n]? = some (.cells (nvs lf5 none 0) 40 (0, 0))) (ht : w.heap[t]? = some (.cells #[.int .i64 0, .slice (some ⟨n, 0, none⟩) 1 1] 33 (0, 0))) : RdT w (some ⟨t, 0, none⟩) sts := by
  obtain ⟨c0, c1, c2, c3, c4, c5, c6, c7⟩ := cells8 hn
  obtain ⟨t0, t1, -, -⟩ := cells2 ht
  intro j hj
  match j, hj with
  | 0, _ =>
    refine ⟨t, 0, some ⟨n, 0, none⟩, 1, rfl, t0, t1, ?_, by decide⟩
    intro i hi
    match i, hi with
    | 0, _ => exact ⟨n, 0, none, 0, rfl, ⟨c0, c1, c2, c3, c4, c5, c6, c7, by intro q hq; exact absurd hq (by simp [lf5]), by decide, by decide, by constructor <;> decide⟩⟩
theorem sts_n : ∀ j, j < sts.length → (sts.getD j (0, [])).2.length ≤ 1759218604441 := by
  intro j hj
  match j, hj with
  | 0, _ => decide
/-- Trees that grow in their box. -/
structure LT (w0 wa : World) (E t n : Nat) (h0 h1 h2 h3 : Value) (k : Nat) (wr : World) (v : Value) : Prop where
  own : OwnT t wr v (repK k n)
  bx : wr.heap[E]? = some (.cells #[h0, h1, h2, h3, v] 26 (0, 0))
  kp : Keep w0 wr
  lo : ∀ b, b < wa.heap.size → b ≠ E → b ≠ t → wr.heap[b]? = wa.heap[b]?
  sz : wa.heap.size ≤ wr.heap.size
  ob : ∀ b, v.ownBlock = some b → b = t ∨ wa.heap.size ≤ b
theorem LT.step {w0 wa wr w7 : World} {E t n k : Nat} {h0 h1 h2 h3 v v' : Value} {ob : Obj} (h : LT w0 wa E t n h0 h1 h2 h3 k wr v) (hE : E < wa.heap.size) (hEt : E ≠ t) (h0E : w0.heap.size ≤ E) (h0t : w0.heap.size ≤ t)
    (hO : OwnT t w7 v' (repK k n ++ [(0, some ⟨n, 0, none⟩, 1, 1)])) (g7 : (wr.drew.alloc ob).grownBy w7 v.ownBlock) (hv : v'.ownBlock = v.ownBlock ∨ v'.ownBlock = some (wr.heap.size + 1)) :
    LT w0 wa E t n h0 h1 h2 h3 (k + 1) (w7.setCell ⟨E, 4, none⟩ v') v' ∧ w7.heap[E]? = some (.cells #[h0, h1, h2, h3, v] 26 (0, 0)) := by
  have hsz := h.sz
  have hs7 := g7.size
  rw [World.size_alloc] at hs7
  have hs7' : wr.heap.size + 1 ≤ w7.heap.size := hs7
  have hbl : ∀ b, b < wr.heap.size → v.ownBlock ≠ some b → w7.heap[b]? = wr.heap[b]? := fun b hb hne => (g7.block b (by rw [World.size_alloc]; show b < wr.heap.size + 1; omega) (fun e => hne e.symm)).trans ((((Keep.refl wr).drew).alloc ob).block b hb)
  have hEo : v.ownBlock ≠ some E := fun e => by have := h.ob E e; omega
  have e1 : w7.heap[E]? = some (.cells #[h0, h1, h2, h3, v] 26 (0, 0)) := (hbl E (by omega) hEo).trans h.bx
  have kd : Keep w0 (wr.drew.alloc ob) := (h.kp.drew).alloc _
  rw [repK_next] at hO
  refine ⟨⟨?_, ?_, ?_, ?_, ?_, ?_⟩, e1⟩
  · refine hO.same (fun b hb => neq_set w7 _ _ _ b ?_)
    rcases hv with q | q
    · rw [q] at hb; have := h.ob b hb; omega
    · rw [q] at hb; simp only [Option.some.injEq] at hb; omega
  · have := heap_setCell_same w7 E 4 _ 26 v' e1
    simpa using this
  · exact Keep.setCell (Below.grown kd g7 kd.le (fun b hb => by have := h.ob b hb; have := h.kp.le; have := h.sz; omega)) (p := ⟨E, 4, none⟩) h0E _
  · intro b hb hbE hbt
    rw [neq_set w7 _ _ _ b hbE, hbl b (by omega) (fun e => by have := h.ob b e; omega)]
    exact h.lo b hb hbE hbt
  · rw [World.size_setCell]; omega
  · intro b hb
    rcases hv with q | q
    · rw [q] at hb; exact h.ob b hb
    · rw [q] at hb; simp only [Option.some.injEq] at hb; omega
end Go.Proofs.YtpogipmamciciaaDoor
