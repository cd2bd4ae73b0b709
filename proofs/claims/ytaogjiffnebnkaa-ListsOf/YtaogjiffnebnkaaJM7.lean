import Derived.Test.YtaogjiffnebnkaaP4
import Derived.Test.YtaogjiffnebnkaaProg
import Derived.Test.YtaogjiffnebnkaaJYMM
import Derived.Test.YtaogjiffnebnkaaJYT3
import Derived.Test.YtaogjiffnebnkaaJYR3
import Derived.Test.YtaogjiffnebnkaaKYT5
import Derived.Test.YtaogjiffnebnkaaKYT6
import Derived.Test.YtaogjiffnebnkaaKYU1
import Derived.Test.YtaogjiffnebnkaaKYMM
import Derived.Test.YtaogjiffnebnkaaKM1
import Derived.Test.YtaogjiffnebnkaaKM2
import Derived.Test.YtaogjiffnebnkaaKM3
import Derived.WalkKit
import Derived.WalkSpells
import Derived.WalkLawsBesides
import Derived.Deep.Draws
import Derived.Deep.QuietTactic
import Derived.BigQuiet
import Derived.Laws.Externs
import Derived.Laws.CopyOwn
import Derived.RangeFuncBox
import Derived.RangeFuncLeaves
import Derived.RangeFuncCalls
import Derived.RangeFuncRecord
import Derived.Below
import Derived.Shelf.Abstract
import Derived.OwnWalkIn
import Derived.TacticsInMore
import Derived.LoopNIn
import Derived.LoopIn
import Derived.Sort.LoopGhostIn
import Derived.Deep.RegionLaw
import Derived.Deep.RegionWith
import Derived.Deep.RegionHeld3
import Derived.Stop.RegionWithIn
import Derived.Deep.LoopGhost
import Derived.Deep.CutRange
import Derived.Deep.CutBlock
set_option linter.unusedVariables false
set_option linter.unusedSimpArgs false
namespace Go.Proofs.Ytaogjiffnebnkaa.Mk
open Go.RowKit Go.Shelf
attribute [local go_sem] run_store_float
def cnN (L : List Nd) : Int := if lvE L = 0 then ((lvs L).length : Int) else 0
set_option maxRecDepth 100000 in
theorem rCount_any (a : Option Addr) (cap : Nat) (out : Int) (L : List Nd) (hLn : L.length ≤ 2199023255552) (w : World) (hrd : RdN w a L) :
    Calls Try.prog 58 #[.agg #[.int .i64 out, .slice a L.length cap]] w fun e w' => e = .returned (.tuple #[.int .i64 (cnN L), .int .i64 (lvE L)]) ∧ Keep w w' := by
  have k0 : Keep w (w.alloc (Obj.cells #[Value.int IntKind.i64 out, Value.slice a L.length cap] 54)) := (Keep.refl w).alloc _
  have hC := rLeaves_any a cap out L hLn _ (hrd.keep k0)
  have hll : (lvs L).length ≤ 2199023255552 := by
    unfold lvs
    split
    · rename_i h
      exact Nat.le_trans (List.length_filter_le _ _) (Nat.le_trans (ord_len (shE_rgt h).wi) hLn)
    · simp
  go_enter Try.func58, Try.ntmps58
  go_wp2_with fail
  refine hC.mono ?_
  rintro e w1 ⟨v, rfl, h1, h2, k1⟩
  have k01 := k0.trans k1
  obtain ⟨av, cv, rfl, hcv⟩ := h1.shape
  clear hC h2
  by_cases hE : shE L = 0
  · have c1 : (shE L != 0) = false := by rw [bne_eq_false_iff_eq]; exact hE
    by_cases hM : 4096 < (lvs L).length
    · have c2 : decide (((lvs L).length : Int) > 4096) = true := decide_eq_true (by omega)
      have c3 : decide (4096 < ((lvs L).length : Int)) = true := decide_eq_true (by omega)
      have HE : Hid (lvE L = 3) := by show _ = _; unfold lvE; rw [if_neg (by simpa using hE), if_pos hM]
      have HC : Hid (cnN L = 0) := by show _ = _; unfold cnN; rw [HE.out]; rfl
      replace hE : Hid _ := hE
      go_wp2_with fail
      go_ret2
      exact ⟨by rw [HE.out, HC.out]; rfl, k01⟩
    · have c2 : decide (((lvs L).length : Int) > 4096) = false := decide_eq_false (by omega)
      have c3 : decide (4096 < ((lvs L).length : Int)) = false := decide_eq_false (by omega)
      have HE : Hid (lvE L = 0) := by show _ = _; unfold lvE; rw [if_neg (by simpa using hE), if_neg hM]
      have HC : Hid (cnN L = ((lvs L).length : Int)) := by show _ = _; unfold cnN; rw [if_pos HE.out]
      replace hE : Hid _ := hE
      go_wp2_with fail
      go_ret2
      exact ⟨by rw [HE.out, HC.out]; rfl, k01⟩
  · have c1 : (shE L != 0) = true := by rw [bne_iff_ne]; exact hE
    have HE : Hid (lvE L = shE L) := by show _ = _; unfold lvE; rw [if_pos hE]
    have HC : Hid (cnN L = 0) := by show _ = _; unfold cnN; rw [if_neg (by rw [HE.out]; exact hE)]
    replace hE : Hid _ := hE
    go_wp2_with fail
    go_ret2
    exact ⟨by rw [HC.out, HE.out]; rfl, k01⟩
/-- Whole numbers in a row of one's own. -/
def OwnQ (B : Nat) (w : World) (v : Value) (l : List Nat) : Prop := w.ownsRow B 3 1 v l.length (UI l)
theorem OwnQ.cells {B : Nat} {w : World} {v : Value} {l : List Nat} {x : Nat} (h : OwnQ B w v (l ++ [x])) : ∃ g cap, v = .slice (some ⟨g, 0, none⟩) (l.length + 1) cap ∧ B ≤ g ∧ l.length + 1 ≤ cap ∧ w.cell? ⟨g, l.length, none⟩ = some (.int .i64 (x : Nat)) ∧ OwnQ B w (.slice (some ⟨g, 0, none⟩) l.length cap) l := by
  rcases h.2 with ⟨h1, h2⟩ | ⟨g, cap, cur, hv, hg, hh, h1, h2, h3, h4⟩
  · simp at h2
  · have hl : (l ++ [x]).length = l.length + 1 := by simp
    rw [hl] at hv h1 h4
    refine ⟨g, cap, hv, hg, h1, ?_, by simp [UI], .inr ⟨g, cap, cur, rfl, hg, hh, by omega, h2, h3, ?_⟩⟩
    · have e1 : cur.toList[l.length]? = (UI (l ++ [x]))[l.length]? := by rw [← h4, List.getElem?_take, if_pos (by omega)]
      rw [cell_of_row w g _ cur 3 (0, 0) hh]
      have e2 : (UI (l ++ [x]))[l.length]? = some (.int .i64 (x : Nat)) := by simp [UI]
      rw [e2] at e1
      simpa using e1
    · have := congrArg (List.take l.length) h4
      rw [List.take_take, Nat.min_eq_left (by omega)] at this
      rw [Nat.mul_one, this]
      simp [UI]
theorem appQ_run (B : Nat) (w : World) (ty : Nat) (v : Value) (l ys : List Nat) (hown : OwnQ B w v l) (hB : B ≤ w.heap.size) (ad : Addr) (c : Nat) (hnews : ∀ j u, (UI ys)[j]? = some u → w.cell? (ad.add j) = some u) (hlen : l.length + ys.length ≤ 17592186044416) :
    ∃ v' w', (Builtin.append_ #[55, 55] ty #[v, .slice (some ad) ys.length c]).run Try.prog w = .ok v' w' ∧ OwnQ B w' v' (l ++ ys) ∧ w.grownBy w' v.ownBlock := by
  obtain ⟨i0, hi, hz0, hz1, hz2⟩ := info_parts i3
  have h1 : ∀ u ∈ UI ys, u.oneCell' = true := by intro u hu; obtain ⟨_, _, rfl⟩ := List.mem_map.1 hu; rfl
  obtain ⟨v', w', hr, h2, h3, -⟩ := run_append_own (P := Try.prog) w B 55 ty 3 i0 (.int .i64 0) 1 8 Try.underlying55 hi hz0 hz1 hz2 rfl (by decide) v _ _ hown ad ys.length c (UI ys) (by simp [UI]) hnews h1 (by simp only [maxLen]; omega) (by omega) hB
  refine ⟨v', w', hr, ?_, h3⟩
  unfold OwnQ; rw [List.length_append]; simpa [UI] using h2
theorem wpList_appQ (B : Nat) (w : World) {ops : Array Oper} {rest : List Oper} {o : Oper} {a : Act} {Q : Exit → Act → World → Prop} (hgd : o.guard = none) (s x : Operand)
    (hop : o.op = .call { callee := .builtin .append, args := #[s, x], argTypes := #[55, 55] }) (l ys : List Nat) (v : Value) (hs : a.eval s = v) (hown : OwnQ B w v l) (hB : B ≤ w.heap.size) (ad : Addr) (k c : Nat) (hx : a.eval x = .slice (some ad) k c) (hk : k = ys.length)
    (hnews : ∀ j u, (UI ys)[j]? = some u → w.cell? (ad.add j) = some u) (hlen : l.length + ys.length ≤ 17592186044416)
    (hK : ∀ v' w', OwnQ B w' v' (l ++ ys) → w.grownBy w' v.ownBlock → wpList Try.prog ops Q rest (a.put o.dst v') w') :
    wpList Try.prog ops Q (o :: rest) a w := by
  subst hk
  refine wpList_plain hgd fun K hK' => ?_
  obtain ⟨v', w', hrun, r1, r2⟩ := appQ_run B w o.type v l ys hown hB ad c hnews hlen
  unfold Oper.wp
  simp [execOp, hop, resolve, invoke, builtin, hs, hx, hrun, Result.andThen]
  exact hK' _ _ (hK v' w' r1 r2)
theorem OwnQ.nilOr {B : Nat} {w : World} {v : Value} {l : List Nat} (h : OwnQ B w v l) : ∃ a c, v = .slice a l.length c ∧ l.length ≤ c := by
  rcases h.2 with ⟨h1, h2⟩ | ⟨g, cap, cur, hv, hg, hh, h1, h2, h3, h4⟩
  · exact ⟨none, 0, by rw [h1, h2], by omega⟩
  · exact ⟨_, _, hv, h1⟩
end Go.Proofs.Ytaogjiffnebnkaa.Mk
set_option linter.unusedVariables false
set_option linter.unusedSimpArgs false
namespace Go.Proofs.Ytaogjiffnebnkaa.Mk
open Go.RowKit Go.Shelf
attribute [local go_sem] run_store_float
def sumB (f : BT → Nat) (Q : List (Nat × BT)) : Nat := (Q.map fun x => f x.2).sum
theorem sumB_snoc (f : BT → Nat) (Q : List (Nat × BT)) (x : Nat × BT) : sumB f (Q ++ [x]) = sumB f Q + f x.2 := by simp [sumB]
def nodesB : BT → Nat := fun b => b.pre.length
/-- What below holds between two rounds. -/
structure WIt (L : List Nd) (w : World) (a : Option Addr) (cap : Nat) (out : Int) (T n : Nat) (v : Value) (wr : World) (Q : List (Nat × BT)) : Prop where
  own : OwnQ (w.heap.size + 1) wr v (Q.map (·.1))
  tb : wr.heap[w.heap.size]? = some (Obj.cells #[Value.int IntKind.i64 out, Value.slice a L.length cap] 54 (0, 0))
  kp : Keep w wr
  bt : ∀ x ∈ Q, Bt (shp L) x.2 x.1 ∧ x.1 < L.length
  sum : n + sumB BT.nl Q = T
  few : Q.length ≤ T
theorem WIt.grow {L : List Nd} {w : World} {a : Option Addr} {cap : Nat} {out : Int} {T n : Nat} {v : Value} {wr : World} {Q Q2 : List (Nat × BT)} (h : WIt L w a cap out T n v wr Q) {W w7 : World} {v2 v7 : Value} {n7 : Nat} (kW : Keep wr W) (hv : ∀ b, v2.ownBlock = some b → w.heap.size + 1 ≤ b) (g7 : W.grownBy w7 v2.ownBlock) (hO : OwnQ (w.heap.size + 1) w7 v7 (Q2.map (·.1))) (hb : ∀ x ∈ Q2, Bt (shp L) x.2 x.1 ∧ x.1 < L.length) (hs : n7 + sumB BT.nl Q2 = T) (hf : Q2.length ≤ T) : WIt L w a cap out T n7 v7 w7 Q2 := by
  have hlt := (Array.getElem?_eq_some_iff.1 h.tb).1
  have h1 := kW.le
  refine ⟨hO, ?_, ?_, hb, hs, hf⟩
  · exact (g7.block _ (by omega) (fun e => by have := hv _ e.symm; omega)).trans ((kW.block _ hlt).trans h.tb)
  · exact Below.grown (h.kp.trans kW) g7 (by have := h.kp.le; omega) (fun b hb => by have := hv b hb; omega)
theorem WIt.leaf {L : List Nd} {w : World} {a : Option Addr} {cap : Nat} {out : Int} {T n : Nat} {v : Value} {wr : World} {Q Q2 : List (Nat × BT)} (h : WIt L w a cap out T n v wr Q) {W : World} {v7 : Value} {n7 : Nat} (kW : Keep wr W) (hO : OwnQ (w.heap.size + 1) wr v7 (Q2.map (·.1))) (hb : ∀ x ∈ Q2, Bt (shp L) x.2 x.1 ∧ x.1 < L.length) (hs : n7 + sumB BT.nl Q2 = T) (hf : Q2.length ≤ T) : WIt L w a cap out T n7 v7 W Q2 :=
  ⟨own_keep hO kW, (kW.block _ (Array.getElem?_eq_some_iff.1 h.tb).1).trans h.tb, h.kp.trans kW, hb, hs, hf⟩
theorem sumB_ge (Q : List (Nat × BT)) : Q.length ≤ sumB BT.nl Q := by
  induction Q with
  | nil => simp
  | cons x Q ih => have := x.2.nl_pos; simp only [sumB, List.map_cons, List.sum_cons, List.length_cons] at ih ⊢; omega
set_option maxRecDepth 100000 in
set_option maxHeartbeats 2000000 in
theorem rbelow_any (a : Option Addr) (cap : Nat) (out : Int) (L : List Nd) (hLn : L.length ≤ 2199023255552) (hR : Rgt L) {b : BT} {i : Nat} (hb : Bt (shp L) b i) (hi : i < L.length) (hn : b.nl ≤ 10000) (w : World) (hrd : RdN w a L) :
    Calls Try.prog 61 #[.agg #[.int .i64 out, .slice a L.length cap], .int .i64 (i : Nat)] w fun e w' => e = .returned (.int .i64 (b.nl : Nat)) ∧ Keep w w' := by
  have I0 : WIt L w a cap out b.nl 0 (.slice (some ⟨w.heap.size + 1, 0, none⟩) 1 1) ((w.alloc (Obj.cells #[Value.int IntKind.i64 out, Value.slice a L.length cap] 54)).alloc (Obj.cells #[Value.int IntKind.i64 (i : Nat)] 3)) [(i, b)] := by
    refine ⟨⟨by simp [UI], .inr ⟨w.heap.size + 1, 1, #[.int .i64 (i : Nat)], rfl, by omega, ?_, by simp, by simp only [maxLen]; omega, rfl, rfl⟩⟩, ?_, ((Keep.refl w).alloc _).alloc _, ?_, by simp [sumB], by have := b.nl_pos; simp; omega⟩
    · have := heap_alloc_new (w.alloc (Obj.cells #[Value.int IntKind.i64 out, Value.slice a L.length cap] 54)) (Obj.cells #[Value.int IntKind.i64 (i : Nat)] 3)
      rw [World.size_alloc] at this
      exact this
    · exact (Below.heap_alloc _ _ _ (by simp)).trans (heap_alloc_new w _)
    · intro x hx
      simp only [List.mem_singleton] at hx
      subst hx
      exact ⟨hb, hi⟩
  replace I0 : Hid _ := I0
  go_enter Try.func61, Try.ntmps61
  go_wp2_with fail
  generalize (w.alloc (Obj.cells #[Value.int IntKind.i64 out, Value.slice a L.length cap] 54)).alloc (Obj.cells #[Value.int IntKind.i64 (i : Nat)] 3) = wE at I0 ⊢
  go_loopg [5, 6] (nodesB b) (fun gg s5 s6 wr => ∃ (n : Nat) (Q : List (Nat × BT)), s5 = .int .i64 (n : Nat) ∧ WIt L w a cap out b.nl n s6 wr Q ∧ gg = sumB nodesB Q)
  case atStart => exact ⟨0, [(i, b)], rfl, I0.out, by simp [sumB]⟩
  case round =>
    clear I0
    obtain ⟨n, Q, rfl, hI, rfl⟩ := hrel
    rcases List.eq_nil_or_concat Q with rfl | ⟨Q1, x, rfl⟩
    · obtain ⟨av, cv, hv, -⟩ := hI.own.nilOr
      simp only [List.map_nil, List.length_nil] at hv
      subst hv
      have hs := hI.sum
      simp only [sumB, List.map_nil, List.sum_nil, Nat.add_zero] at hs
      replace hs : Hid _ := hs
      go_wp2_with fail
      go_ret
      exact ⟨ret_int (by rw [hs.out]), hI.kp⟩
    · obtain ⟨k, c⟩ := x
      obtain ⟨hBt, hk⟩ := hI.bt (k, c) (by simp)
      have hO := hI.own
      rw [List.concat_eq_append, List.map_append, List.map_cons, List.map_nil] at hO
      obtain ⟨g, cp, hv, hg, hcp, hcell, hO1⟩ := hO.cells
      simp only [List.length_map] at hBt hk hcell hv hcp hO1
      subst hv
      have hlt1 := sumB_ge (Q1 ++ [(k, c)])
      have hsum := hI.sum
      rw [List.concat_eq_append, sumB_snoc] at hsum
      rw [sumB_snoc] at hlt1
      simp only [List.length_append, List.length_cons, List.length_nil] at hlt1
      simp only at hsum hlt1
      have hq1 : ∀ x ∈ Q1, Bt (shp L) x.2 x.1 ∧ x.1 < L.length := fun x hx => hI.bt x (by simp [hx])
      obtain ⟨bb, o, ca, cpn, rfl, hN⟩ := hrd.keep hI.kp k hk
      obtain ⟨N, hNd⟩ : ∃ N, L.getD k nd0 = N := ⟨_, rfl⟩
      have HK : Hid ((shp L).K k = decide (N.kd = 2 ∨ N.kd = 3)) := by show _ = _; rw [← hNd]; rfl
      have kk := fun hK => hR.kids hk hK
      have hlf := fun hK => hR.leaf hk hK
      rw [hNd] at hN kk hlf
      replace hNd : Hid _ := hNd
      have c0 := hN.c0
      have c1 := hN.c1
      have c2 := hN.c2
      have c3 := hN.c3
      have c4 := hN.c4
      have c5 := hN.c5
      have c6 := hN.c6
      have c7 := hN.c7
      have kA := fun ob => (Keep.refl wr).alloc ob
      have d0 := fun ob => (kA ob).cell c0
      have d1 := fun ob => (kA ob).cell c1
      have d2 := fun ob => (kA ob).cell c2
      have d3 := fun ob => (kA ob).cell c3
      have d4 := fun ob => (kA ob).cell c4
      have d5 := fun ob => (kA ob).cell c5
      have d6 := fun ob => (kA ob).cell c6
      have d7 := fun ob => (kA ob).cell c7
      have x1 := cell_of_row _ _ 1 _ 54 (0, 0) hI.tb
      simp only [List.getElem?_toArray, List.getElem?_cons_zero, List.getElem?_cons_succ] at x1
      have y1 := fun ob => (kA ob).cell x1
      have z1 := fun ob => (kA ob).cell hcell
      have hkL : (k : Int) < (L.length : Int) := by omega
      have hkb : k ≤ 2199023255552 := by omega
      have hql : Q1.length ≤ 10000 := by omega
      replace hI : Hid _ := hI
      replace hO1 : Hid _ := hO1
      replace kA : Hid _ := kA
      clear hN hO
      go_wp2_with fail
      go_region
      all_goals
        have kW : Keep wr (wr.alloc (Obj.cells #[Value.int IntKind.u8 N.kd, Value.int IntKind.i64 N.vl, Value.int IntKind.i64 N.ft, Value.float FloatKind.f64 N.th, Value.slice ca N.cs.length cpn, Value.int IntKind.u8 N.ms, Value.int IntKind.i64 N.lf, Value.int IntKind.i64 N.rt] 83)).drew := ((Keep.refl wr).alloc _).drew
        have tx : (wr.alloc (Obj.cells #[Value.int IntKind.u8 N.kd, Value.int IntKind.i64 N.vl, Value.int IntKind.i64 N.ft, Value.float FloatKind.f64 N.th, Value.slice ca N.cs.length cpn, Value.int IntKind.u8 N.ms, Value.int IntKind.i64 N.lf, Value.int IntKind.i64 N.rt] 83)).drew.heap[wr.heap.size]? = some (Obj.cells #[Value.int IntKind.u8 N.kd, Value.int IntKind.i64 N.vl, Value.int IntKind.i64 N.ft, Value.float FloatKind.f64 N.th, Value.slice ca N.cs.length cpn, Value.int IntKind.u8 N.ms, Value.int IntKind.i64 N.lf, Value.int IntKind.i64 N.rt] 83 (0, 0)) := heap_alloc_new wr _
        clear c0 c1 c2 c3 c4 c5 c6 c7 d0 d1 d2 d3 d4 d5 d6 d7 x1 y1 z1 hcell kA
        generalize (wr.alloc (Obj.cells #[Value.int IntKind.u8 N.kd, Value.int IntKind.i64 N.vl, Value.int IntKind.i64 N.ft, Value.float FloatKind.f64 N.th, Value.slice ca N.cs.length cpn, Value.int IntKind.u8 N.ms, Value.int IntKind.i64 N.lf, Value.int IntKind.i64 N.rt] 83)).drew = W at *
        have e0 := cell_of_row _ _ 0 _ 83 (0, 0) tx
        have e6 := cell_of_row _ _ 6 _ 83 (0, 0) tx
        have e7 := cell_of_row _ _ 7 _ 83 (0, 0) tx
        simp only [List.getElem?_toArray, List.getElem?_cons_zero, List.getElem?_cons_succ] at e0 e6 e7
        replace tx : Hid _ := tx
        cases hBt with
        | leaf hK =>
          have hkd := hlf hK
          rw [hkd] at e0
          have hW := hI.out.leaf (Q2 := Q1) (n7 := n + 1) kW hO1.out hq1 (by simp only [BT.nl] at hsum; omega) (by simp only [BT.nl] at hlt1; omega)
          replace hW : Hid _ := hW
          clear hkd hlf kk HK
          go_simp
          go_wp2_with fail
          go_roundg (sumB nodesB Q1)
          case measure => rw [List.concat_eq_append, sumB_snoc]; simp [nodesB, BT.pre]
          case rel => exact ⟨n + 1, Q1, by go_num, hW.out, rfl⟩
        | @node _ l r hK hl hr =>
          obtain ⟨⟨f6, hA, -⟩, f7, hB, -⟩ := kk hK
          have cE : ((N.kd : Int) == 1) = false := by
            have h1 := HK.out
            rw [hK] at h1
            simp only [eq_comm (a := true), decide_eq_true_eq] at h1
            rw [beq_eq_false_iff_ne]; omega
          rw [f6] at e6
          rw [f7] at e7
          clear kk hlf HK
          replace f6 : Hid _ := f6
          replace f7 : Hid _ := f7
          have hOw : OwnQ _ _ _ _ := own_keep hO1.out (kW.alloc (Obj.cells #[Value.int .i64 ((shp L).A k : Nat), Value.int .i64 ((shp L).B k : Nat)] 3))
          have hle := hI.out.kp.le
          have hle2 := kW.le
          have hlt0 := (Array.getElem?_eq_some_iff.1 hI.out.tb).1
          replace hOw : Hid _ := hOw
          have hB7 : w.heap.size + 1 ≤ (W.alloc (Obj.cells #[Value.int .i64 ((shp L).A k : Nat), Value.int .i64 ((shp L).B k : Nat)] 3)).heap.size := by rw [World.size_alloc]; omega
          have hL7 : (Q1.map (·.1)).length + [(shp L).A k, (shp L).B k].length ≤ 17592186044416 := by rw [List.length_map]; simp only [List.length_cons, List.length_nil]; omega
          have hN7 := news2 W ((shp L).A k) ((shp L).B k)
          replace hB7 : Hid _ := hB7
          replace hL7 : Hid _ := hL7
          replace hN7 : Hid _ := hN7
          go_simp
          go_wp2_with (at_builtin; refine wpList_appQ (w.heap.size + 1) _ rfl _ _ rfl (Q1.map (·.1)) [(shp L).A k, (shp L).B k] (.slice (some ⟨g, 0, none⟩) Q1.length cp) ?_ ?_ ?_ ⟨W.heap.size, 0, none⟩ 2 2 ?_ rfl ?_ ?_ ?_; rfl; exact hOw.out; exact hB7.out; rfl; exact hN7.out; exact hL7.out; intro v7 w7 hO7 g7; have hO7' : OwnQ _ _ _ _ := hO7; obtain ⟨a7, c7, rfl, -⟩ := hO7'.nilOr)
          have hW := hI.out.grow (Q2 := Q1 ++ [((shp L).A k, l), ((shp L).B k, r)]) (n7 := n) (kW.alloc (Obj.cells #[Value.int .i64 ((shp L).A k : Nat), Value.int .i64 ((shp L).B k : Nat)] 3)) (v2 := .slice (some ⟨g, 0, none⟩) Q1.length cp) (fun b hb => (own_block hO1.out hb).1) g7 (by rw [List.map_append]; exact hO7) (by
            intro x hx
            simp only [List.mem_append, List.mem_cons, List.not_mem_nil, or_false] at hx
            rcases hx with hx | rfl | rfl
            · exact hq1 x hx
            · exact ⟨hl, hA⟩
            · exact ⟨hr, hB⟩) (by simp only [sumB, List.map_append, List.map_cons, List.map_nil, List.sum_append, List.sum_cons, List.sum_nil, BT.nl] at hsum ⊢; omega) (by have p1 := l.nl_pos; have p2 := r.nl_pos; simp only [BT.nl, List.length_append, List.length_cons, List.length_nil] at hlt1 hsum ⊢; have := sumB_ge Q1; omega)
          rw [show (List.map (fun x => x.fst) Q1 ++ [(shp L).A k, (shp L).B k]).length = Q1.length + 2 by simp] at hW
          replace hW : Hid _ := hW
          clear hO7 hO7' g7
          go_wp2_with fail
          go_roundg (sumB nodesB (Q1 ++ [((shp L).A k, l), ((shp L).B k, r)]))
          case measure => simp [sumB, nodesB, BT.pre]
          case rel => exact ⟨n, _, rfl, hW.out, rfl⟩
end Go.Proofs.Ytaogjiffnebnkaa.Mk
set_option linter.unusedVariables false
set_option linter.unusedSimpArgs false
namespace Go.Proofs.Ytaogjiffnebnkaa.Mk
open Go.RowKit Go.Shelf
theorem step_appM {B : Nat} {W : World} {ops : Array Oper} {o : Oper} {a : Act} {K : Act → World → Prop} {Q : Exit → Act → World → Prop} {E : Prop} (hgd : o.guard = none) (s x : Operand)
    (ho : o.op = .call { callee := .builtin .append, args := #[s, x], argTypes := #[49, 49] }) (l : List (Nat × Nat × Nat)) (y : Nat × Nat × Nat) (v : Value) (hown : OwnM B W v l) (hB : B ≤ W.heap.size) (hlen : l.length + 1 ≤ 5864062014805) (ad : Addr) (c : Nat) (hnews : ∀ j u, (UM [y])[j]? = some u → W.cell? (ad.add j) = some u)
    (hs : a.eval s = v) (hx : a.eval x = .slice (some ad) 1 c)
    (hK : ∀ v' w', OwnM B w' v' (l ++ [y]) → W.grownBy w' v.ownBlock → K (a.put o.dst v') w') :
    if Region.wanted o (yielded ops a.tmps) = true then Oper.wp Try.prog o a W K Q else E := by
  have hw : Region.wanted o (yielded ops a.tmps) = true := by simp [Region.wanted, hgd]
  rw [if_pos hw]
  obtain ⟨v', w', hr, h2, h3⟩ := appM_run B W o.type v l y hown hB ad c hnews hlen
  unfold Oper.wp execOp
  simp only [ho, resolve, invoke, builtin, Sem.run_bind, Sem.run_pure, Result.andThen_ok, List.map_toArray, List.map_cons, List.map_nil, hs, hx, hr]
  exact hK v' w' h2 h3
/-- Marks that are right. -/
def MkOk (t : Sh) (b : BT) (l : List (Nat × Nat × Nat)) : Prop := ∀ x ∈ l, (x.1, x.2.1) ∈ b.fr 0 ∧ t.K x.1 = true ∧ ∃ c, Bt t c (t.A x.1) ∧ x.2.2 = x.2.1 + c.nl
/-- What the reference's Marks holds between two rounds. -/
structure RM (L : List Nd) (w W0 : World) (g : Nat) (b : BT) (p : List Nat) (l : List (Nat × Nat × Nat)) (F : List Nat) (v : Value) (wr : World) : Prop where
  kp : Keep w wr
  sz : W0.heap.size ≤ wr.heap.size
  low : ∀ b, b < W0.heap.size → b ≠ g → wr.heap[b]? = W0.heap[b]?
  row : wr.heap[g]? = some (.cells (UI F).toArray 3 (0, 0))
  own : OwnM W0.heap.size wr v l
  fl : F.length = L.length
  nm : l.map (·.1) = p.filter (fun j => (shp L).K j)
  mks : MkOk (shp L) b l
  fr : ∀ j c, (j, c) ∈ b.fr 0 → (j = 0 ∨ ∃ q ∈ p, (shp L).K q = true ∧ ((shp L).A q = j ∨ (shp L).B q = j)) → F.getD j 0 = c
theorem RM.skip {L : List Nd} {w W0 : World} {g : Nat} {b : BT} {p : List Nat} {l : List (Nat × Nat × Nat)} {F : List Nat} {v : Value} {wr w' : World} (h : RM L w W0 g b p l F v wr) (hg : g < W0.heap.size) (k : Keep wr w') {i : Nat} (hK : (shp L).K i = false) : RM L w W0 g b (p ++ [i]) l F v w' := by
  have hs := h.sz
  refine ⟨h.kp.trans k, Nat.le_trans h.sz k.le, fun b hb hne => (k.block b (by omega)).trans (h.low b hb hne), (k.block _ (by omega)).trans h.row, own_keep h.own k, h.fl, by rw [List.filter_append, h.nm]; simp [hK], h.mks, ?_⟩
  intro j c hj hp
  refine h.fr j c hj ?_
  rcases hp with hp | ⟨q, hq, h1, h2⟩
  · exact .inl hp
  · rcases List.mem_append.1 hq with hq | hq
    · exact .inr ⟨q, hq, h1, h2⟩
    · simp only [List.mem_singleton] at hq
      subst hq
      rw [hK] at h1; cases h1
theorem RM.next {L : List Nd} {w W0 : World} {g : Nat} {b : BT} {p : List Nat} {l : List (Nat × Nat × Nat)} {F : List Nat} {v v7 : Value} {wr W w7 : World} (h : RM L w W0 g b p l F v wr) (hT : Tr (shp L) L.length) (hb : Bt (shp L) b 0) (hg : g < W0.heap.size) (hw : w.heap.size ≤ g) (k : Keep wr W) {i a : Nat} {c : BT} (hi : i < L.length) (hK : (shp L).K i = true) (ha : (i, a) ∈ b.fr 0) (hc : Bt (shp L) c ((shp L).A i))
    (hO : OwnM W0.heap.size w7 v7 (l ++ [(i, a, a + c.nl)])) (g7 : W.grownBy w7 v.ownBlock) :
    w7.heap[g]? = some (.cells (UI F).toArray 3 (0, 0)) ∧
    (w7.setCell ⟨g, (shp L).A i, none⟩ (.int .i64 (a : Nat))).heap[g]? = some (.cells (UI (F.set ((shp L).A i) a)).toArray 3 (0, 0)) ∧
    RM L w W0 g b (p ++ [i]) (l ++ [(i, a, a + c.nl)]) ((F.set ((shp L).A i) a).set ((shp L).B i) (a + c.nl)) v7 ((w7.setCell ⟨g, (shp L).A i, none⟩ (.int .i64 (a : Nat))).setCell ⟨g, (shp L).B i, none⟩ (.int .i64 ((a + c.nl : Nat) : Int))) := by
  have hs := h.sz
  have hk := k.le
  have h7 := g7.size
  obtain ⟨hA, hB⟩ := hT.wi.2 i hi hK
  obtain ⟨zA, zB⟩ := hT.z i hi hK
  have hab := hT.ab hi hK
  have hnd : ((b.fr 0).map (·.1)).Nodup := by rw [b.fr_pre, ← ord_bt hT hb]; exact ord_nodup hT.wi
  obtain ⟨c2, hc2, nA, nB⟩ := hb.fr_next 0 (i, a) ha hK
  have e := hc.one hc2
  subst e
  have hbl : ∀ b, b < W0.heap.size → w7.heap[b]? = wr.heap[b]? := fun b hb => (g7.block b (by omega) (fun e => by have := (own_block h.own e.symm).1; omega)).trans (k.block b (by omega))
  have hrow : w7.heap[g]? = some (.cells (UI F).toArray 3 (0, 0)) := (hbl g hg).trans h.row
  have hr2 : (w7.setCell ⟨g, (shp L).A i, none⟩ (.int .i64 (a : Nat))).heap[g]? = some (.cells (UI (F.set ((shp L).A i) a)).toArray 3 (0, 0)) := by
    have := heap_setCell_same w7 g ((shp L).A i) _ 3 (.int .i64 (a : Nat)) hrow
    rw [this]
    simp [UI, List.map_set]
  refine ⟨hrow, hr2, ?_⟩
  refine ⟨?_, by simp only [World.size_setCell]; omega, ?_, ?_, own_set (own_set hO hg) hg, by simp [h.fl], ?_, ?_, ?_⟩
  · exact Below.setCell (Below.setCell (Below.grown (h.kp.trans k) g7 (by have := h.kp.le; omega) (fun b hb => by have := (own_block h.own hb).1; omega)) (p := ⟨g, (shp L).A i, none⟩) hw _) (p := ⟨g, (shp L).B i, none⟩) hw _
  · intro b hb2 hne
    rw [neq_setM _ _ _ _ _ hne, neq_setM _ _ _ _ _ hne, hbl b hb2]
    exact h.low b hb2 hne
  · have := heap_setCell_same _ g ((shp L).B i) _ 3 (.int .i64 ((a + c.nl : Nat) : Int)) hr2
    rw [this]
    simp [UI, List.map_set]
  · rw [List.map_append, List.filter_append, h.nm]; simp [hK]
  · intro x hx
    rcases List.mem_append.1 hx with hx | hx
    · exact h.mks x hx
    · simp only [List.mem_singleton] at hx
      subst hx
      exact ⟨ha, hK, c, hc, rfl⟩
  · intro j d hj hp
    rw [getD_set, getD_set]
    simp only [List.length_set]
    by_cases e1 : (shp L).B i = j ∧ j < F.length
    · rw [if_pos e1]
      obtain ⟨rfl, -⟩ := e1
      exact assoc_one hnd nB hj
    · rw [if_neg e1]
      by_cases e2 : (shp L).A i = j ∧ j < F.length
      · rw [if_pos e2]
        obtain ⟨rfl, -⟩ := e2
        exact assoc_one hnd nA hj
      · rw [if_neg e2]
        refine h.fr j d hj ?_
        rcases hp with hp | ⟨q, hq, h1, h2⟩
        · exact .inl hp
        · rcases List.mem_append.1 hq with hq | hq
          · exact .inr ⟨q, hq, h1, h2⟩
          · simp only [List.mem_singleton] at hq
            subst hq
            rcases h2 with rfl | rfl
            · exact absurd ⟨rfl, by rw [h.fl]; exact hA⟩ e2
            · exact absurd ⟨rfl, by rw [h.fl]; exact hB⟩ e1
end Go.Proofs.Ytaogjiffnebnkaa.Mk
set_option linter.unusedVariables false
set_option linter.unusedSimpArgs false
namespace Go.Proofs.Ytaogjiffnebnkaa.Mk
open Go.RowKit Go.Shelf
attribute [local go_sem] run_store_float
theorem take_nextN (l : List Nat) (i : Nat) (h : i < l.length) : l.take i ++ [l.getD i 0] = l.take (i + 1) := by
  rw [List.take_add_one]
  simp [List.getD, h]
theorem split_at (l : List Nat) (i : Nat) (h : i < l.length) : l = l.take i ++ l.getD i 0 :: l.drop (i + 1) := by
  have e := (List.take_append_drop i l).symm
  have e2 : l.drop i = l.getD i 0 :: l.drop (i + 1) := by
    rw [List.drop_eq_getElem_cons h]
    simp [List.getD, h]
  rw [e2] at e
  exact e
theorem Bt.top {t : Sh} {b : BT} {i : Nat} (h : Bt t b i) (a : Nat) : (i, a) ∈ b.fr a := by
  cases h with
  | leaf h => simp [BT.fr]
  | node h hl hr => simp [BT.fr]
theorem fr_at (b : BT) (i : Nat) (h : i < b.pre.length) : ∃ a, (b.pre.getD i 0, a) ∈ b.fr 0 := by
  have hl : (b.fr 0).length = b.pre.length := by rw [← b.fr_pre 0, List.length_map]
  refine ⟨((b.fr 0)[i]'(by omega)).2, ?_⟩
  have e : b.pre.getD i 0 = ((b.fr 0)[i]'(by omega)).1 := by
    have : b.pre[i]'h = ((b.fr 0)[i]'(by omega)).1 := by
      have h2 := b.fr_pre 0
      have h3 : b.pre[i]? = ((b.fr 0).map (·.1))[i]? := by rw [h2]
      rw [List.getElem?_eq_getElem h, List.getElem?_map, List.getElem?_eq_getElem (by omega)] at h3
      simpa using h3
    simp [List.getD, h, this]
  rw [e]
  exact List.getElem_mem _
theorem BT.fr_in (b : BT) : ∀ a, ∀ x ∈ b.fr a, x.2 < a + b.nl := by
  induction b with
  | leaf i => intro a x hx; simp only [BT.fr, List.mem_singleton] at hx; subst hx; simp [BT.nl]
  | node i l r hl hr =>
    intro a x hx
    have p1 := l.nl_pos
    simp only [BT.fr, List.mem_cons, List.mem_append] at hx
    simp only [BT.nl]
    rcases hx with rfl | hx | hx
    · simp only; omega
    · have := hl a x hx; omega
    · have := hr _ x hx; omega
theorem UI_cell {w : World} {g j x : Nat} {F : List Nat} (h : w.heap[g]? = some (.cells (UI F).toArray 3 (0, 0))) (hj : j < F.length) (hx : F.getD j 0 = x) : w.cell? ⟨g, j, none⟩ = some (.int .i64 (x : Nat)) := by
  rw [cell_of_row _ _ _ _ 3 (0, 0) h, List.getElem?_toArray, UI_get F j hj, hx]
theorem RM.drew {L : List Nd} {w W0 : World} {g : Nat} {b : BT} {p : List Nat} {l : List (Nat × Nat × Nat)} {F : List Nat} {v : Value} {wr : World} (h : RM L w W0 g b p l F v wr) : RM L w W0 g b p l F v wr.drew :=
  ⟨h.kp.drew, h.sz, h.low, h.row, h.own, h.fl, h.nm, h.mks, h.fr⟩
theorem RM.start {L : List Nd} {w w2 w4 : World} {b : BT} (hT : Tr (shp L) L.length) (hb : Bt (shp L) b 0) (k : Keep w w4) (t : w4.heap[w2.heap.size]? = some (.cells (UI (List.replicate L.length 0)).toArray 3 (0, 0))) : RM L w w4 w2.heap.size b [] [] (List.replicate L.length 0) (.slice none 0 0) w4 := by
  refine ⟨k, Nat.le_refl _, fun _ _ _ => rfl, t, OwnM.nil _ _, by simp, rfl, fun x hx => by simp at hx, ?_⟩
  intro j c hj hp
  rcases hp with rfl | ⟨q, hq, -⟩
  · have hnd : ((b.fr 0).map (·.1)).Nodup := by rw [b.fr_pre, ← ord_bt hT hb]; exact ord_nodup hT.wi
    have := assoc_one hnd (hb.top 0) hj
    subst this
    rw [List.getD_eq_getElem?_getD, List.getElem?_replicate]
    split <;> rfl
  · simp at hq
set_option maxRecDepth 100000 in
set_option maxHeartbeats 2000000 in
theorem rMarks_any (a : Option Addr) (cap : Nat) (out : Int) (L : List Nd) (hLn : L.length ≤ 2199023255552) (w : World) (hrd : RdN w a L) :
    Calls Try.prog 36 #[.agg #[.int .i64 out, .slice a L.length cap]] w fun e w' => ∃ v l, e = .returned (.tuple #[v, .int .i64 (lvE L)]) ∧ OwnM w.heap.size w' v l ∧ (lvE L ≠ 0 → l = []) ∧ (∀ b, lvE L = 0 → Bt (shp L) b 0 → l = b.mks 0) ∧ Keep w w' := by
  have k0 : Keep w (w.alloc (Obj.cells #[Value.int IntKind.i64 out, Value.slice a L.length cap] 54)) := (Keep.refl w).alloc _
  have tb : (w.alloc (Obj.cells #[Value.int IntKind.i64 out, Value.slice a L.length cap] 54)).heap[w.heap.size]? = some (Obj.cells #[Value.int IntKind.i64 out, Value.slice a L.length cap] 54 (0, 0)) := heap_alloc_new w _
  have hC := rCount_any a cap out L hLn _ (hrd.keep k0)
  go_enter Try.func36, Try.ntmps36
  go_wp2_with fail
  generalize w.alloc (Obj.cells #[Value.int IntKind.i64 out, Value.slice a L.length cap] 54) = w1 at *
  refine hC.mono ?_
  rintro e w2 ⟨rfl, k2⟩
  have k02 := k0.trans k2
  by_cases hE : lvE L = 0
  · have c1 : (lvE L != 0) = false := by rw [bne_eq_false_iff_eq]; exact hE
    obtain ⟨hS, hR, hT, b, hb, hlv, hn⟩ := lvE_ok hE
    have hOrd := ord_bt hT hb
    have t2 := (k2.block _ (Array.getElem?_eq_some_iff.1 tb).1).trans tb
    have hz2 := (Array.getElem?_eq_some_iff.1 t2).1
    have x0 := cell_of_row _ _ 0 _ 54 (0, 0) t2
    have x1 := cell_of_row _ _ 1 _ 54 (0, 0) t2
    simp only [List.getElem?_toArray, List.getElem?_cons_zero, List.getElem?_cons_succ] at x0 x1
    obtain ⟨i0, hi, hz0, hz1, hzb⟩ := info_parts i3
    have r1 := fun (wx : World) => run_make (P := Try.prog) wx 55 3 i0 _ Try.underlying55 hi hz0 .i64 .i64 (L.length : Nat) (L.length : Nat) (by omega) (by omega) (by rw [hzb]; omega) (by omega)
    simp only [hz1, Int.toNat_natCast, Nat.mul_one, made3] at r1
    have k3 : Keep w2 (w2.alloc (Obj.cells (UI (List.replicate L.length 0)).toArray 3)) := (Keep.refl w2).alloc _
    have t3 : (w2.alloc (Obj.cells (UI (List.replicate L.length 0)).toArray 3)).heap[w2.heap.size]? = some (Obj.cells (UI (List.replicate L.length 0)).toArray 3 (0, 0)) := heap_alloc_new w2 _
    have hC2 := (callsIn_wide (n := 3)).1 (rOrder_in 3 (by omega) (w2.alloc (Obj.cells (UI (List.replicate L.length 0)).toArray 3)) a cap out L hLn hS (hrd.keep (k02.trans k3)))
    have x0' := k3.cell x0
    have x1' := k3.cell x1
    replace hE : Hid _ := hE
    replace hS : Hid _ := hS
    replace hOrd : Hid _ := hOrd
    replace t2 : Hid _ := t2
    replace t3 : Hid _ := t3
    replace hlv : Hid _ := hlv
    clear hC hzb hz1 hz0 hi
    go_wp2_with fail
    refine hC2.mono ?_
    rintro e w4 ⟨v4, rfl, hO4, hB4, k4⟩
    rw [hOrd.out] at hO4
    have hpl : 0 < b.pre.length := by cases b <;> simp [BT.pre]
    have hple : b.pre.length ≤ L.length := by rw [← hOrd.out]; exact ord_len hT.wi
    obtain ⟨go, co, rfl, hco, hgo, hoc⟩ := hO4.cells hpl
    have hgw : w2.heap.size < go := by have := hB4 go rfl; rw [World.size_alloc] at this; omega
    have k04 := (k02.trans k3).trans k4
    have t4 := (k4.block _ (by rw [World.size_alloc]; omega)).trans t3.out
    have hg4 : w2.heap.size < w4.heap.size := (Array.getElem?_eq_some_iff.1 t4).1
    have I0 := RM.start (w2 := w2) hT hb k04 t4
    have tb4 := (k4.block _ (by rw [World.size_alloc]; omega)).trans ((k3.block _ hz2).trans t2.out)
    replace I0 : Hid _ := I0
    replace hoc : Hid _ := hoc
    replace tb4 : Hid _ := tb4
    clear hC2 hO4 hB4 t4 x0 x1 x0' x1' r1 t3 t2
    have hplb : b.pre.length ≤ 2199023255552 := by omega
    have hw2 := k02.le
    go_wp2_with fail
    go_loopw [7, 27] (fun v iv wr => ∃ (j : Nat) (l : List (Nat × Nat × Nat)) (F : List Nat), j ≤ b.pre.length ∧ iv = .int .i64 j ∧ RM L w w4 w2.heap.size b (b.pre.take j) l F v wr) (fun _ iv _ => b.pre.length - (intOf iv).toNat)
    case atStart => exact ⟨0, [], _, by omega, rfl, I0.out⟩
    case round =>
      clear I0
      obtain ⟨j, l, F, hj, rfl, hI⟩ := hrel
      by_cases hjl : j < b.pre.length
      · have hjc : (j : Int) < (b.pre.length : Int) := by omega
        obtain ⟨fa, hfa⟩ := fr_at b j hjl
        obtain ⟨i, hiv⟩ : ∃ i, b.pre.getD j 0 = i := ⟨_, rfl⟩
        have hci : wr.cell? ⟨go, j, none⟩ = some (.int .i64 (i : Nat)) := by
          have := hoc.out j hjl
          rw [hiv] at this
          rw [← this]
          exact World.cell?_of_block (hI.low go hgo (by omega))
        have hsp := split_at b.pre j hjl
        have htn := take_nextN b.pre j hjl
        rw [hiv] at hfa hsp htn
        have hi : i < L.length := ord_lt hT.wi i (by rw [hOrd.out, hsp]; simp)
        have hpar := ord_par hT (b.pre.take j) i (b.pre.drop (j + 1)) (by rw [hOrd.out]; exact hsp)
        have hFi := hI.fr i fa hfa hpar
        obtain ⟨bb, o, ca, cpn, rfl, hN⟩ := hrd.keep hI.kp i hi
        obtain ⟨N, hNd⟩ : ∃ N, L.getD i nd0 = N := ⟨_, rfl⟩
        have HK : Hid ((shp L).K i = decide (N.kd = 2 ∨ N.kd = 3)) := by show _ = _; rw [← hNd]; rfl
        have kk := fun hK => hR.kids hi hK
        have hlf := fun hK => hR.leaf hi hK
        rw [hNd] at hN kk hlf
        have c0 := hN.c0
        have c1' := hN.c1
        have c2 := hN.c2
        have c3 := hN.c3
        have c4 := hN.c4
        have c5 := hN.c5
        have c6 := hN.c6
        have c7 := hN.c7
        have tbr := (hI.low _ (by omega) (by omega)).trans tb4.out
        have x0 := cell_of_row _ _ 0 _ 54 (0, 0) tbr
        have x1 := cell_of_row _ _ 1 _ 54 (0, 0) tbr
        simp only [List.getElem?_toArray, List.getElem?_cons_zero, List.getElem?_cons_succ] at x0 x1
        have hiL : (i : Int) < (L.length : Int) := by omega
        have hib : i ≤ 2199023255552 := by omega
        have hjb : j ≤ 2199023255552 := by omega
        replace hI : Hid _ := hI
        replace hfa : Hid _ := hfa
        replace hsp : Hid _ := hsp
        replace htn : Hid _ := htn
        replace hiv : Hid _ := hiv
        replace hFi : Hid _ := hFi
        replace hNd : Hid _ := hNd
        replace hpar : Hid _ := hpar
        clear hN
        cases hKi : (shp L).K i
        · have hkd := hlf hKi
          rw [hkd] at c0
          have hW := hI.out.skip hg4 ((Keep.refl wr).alloc (Obj.cells #[Value.int IntKind.u8 N.kd, Value.int IntKind.i64 N.vl, Value.int IntKind.i64 N.ft, Value.float FloatKind.f64 N.th, Value.slice ca N.cs.length cpn, Value.int IntKind.u8 N.ms, Value.int IntKind.i64 N.lf, Value.int IntKind.i64 N.rt] 83)) hKi
          rw [htn.out, hkd] at hW
          replace hW : Hid _ := hW
          replace hkd : Hid _ := hkd
          clear hlf kk HK
          go_wp2_with fail
          exact ⟨⟨j + 1, l, F, by omega, by go_num, hW.out⟩, by simp [intOf]; omega⟩
        · obtain ⟨⟨f6, hA, -⟩, f7, hB, -⟩ := kk hKi
          have cE : ((N.kd : Int) == 1) = false := by
            have h1 := HK.out
            rw [hKi] at h1
            simp only [eq_comm (a := true), decide_eq_true_eq] at h1
            rw [beq_eq_false_iff_ne]; omega
          obtain ⟨c, hc, -, hnB⟩ := hb.fr_next 0 (i, fa) hfa.out hKi
          have hbd := b.fr_in 0 _ hnB
          simp only [Nat.zero_add] at hbd
          obtain ⟨T, hTe⟩ : ∃ T, fa + c.nl = T := ⟨_, rfl⟩
          have hTb : T ≤ 4096 := by omega
          have hTT : (fa : Int) + (c.nl : Int) = (T : Int) := by omega
          have hwT : IntKind.i64.wrap (T : Int) = T := by rw [IntKind.wrap_i64]; omega
          rw [f6] at c6
          rw [f7] at c7
          have kW : Keep wr (wr.alloc (Obj.cells #[Value.int IntKind.u8 N.kd, Value.int IntKind.i64 N.vl, Value.int IntKind.i64 N.ft, Value.float FloatKind.f64 N.th, Value.slice ca N.cs.length cpn, Value.int IntKind.u8 N.ms, Value.int IntKind.i64 ((shp L).A i : Nat), Value.int IntKind.i64 ((shp L).B i : Nat)] 83)) := (Keep.refl wr).alloc _
          have tx : (wr.alloc (Obj.cells #[Value.int IntKind.u8 N.kd, Value.int IntKind.i64 N.vl, Value.int IntKind.i64 N.ft, Value.float FloatKind.f64 N.th, Value.slice ca N.cs.length cpn, Value.int IntKind.u8 N.ms, Value.int IntKind.i64 ((shp L).A i : Nat), Value.int IntKind.i64 ((shp L).B i : Nat)] 83)).heap[wr.heap.size]? = some (Obj.cells #[Value.int IntKind.u8 N.kd, Value.int IntKind.i64 N.vl, Value.int IntKind.i64 N.ft, Value.float FloatKind.f64 N.th, Value.slice ca N.cs.length cpn, Value.int IntKind.u8 N.ms, Value.int IntKind.i64 ((shp L).A i : Nat), Value.int IntKind.i64 ((shp L).B i : Nat)] 83 (0, 0)) := heap_alloc_new wr _
          have hCb := rbelow_any (some ⟨bb, o, none⟩) cap out L hLn hR hc hA (by omega) _ (hrd.keep (hI.out.kp.trans kW))
          have x0a := kW.cell x0
          have x1a := kW.cell x1
          replace tx : Hid _ := tx
          replace f6 : Hid _ := f6
          replace f7 : Hid _ := f7
          replace hTe : Hid _ := hTe
          replace hbd : Hid _ := hbd
          clear hlf kk HK hnB
          go_wp2_with fail
          refine hCb.mono ?_
          rintro e w6 ⟨rfl, k6⟩
          have kw6 := kW.trans k6
          have hg6 : w2.heap.size < wr.heap.size := by have := hI.out.sz; omega
          have hFl := hI.out.fl
          have hcf : w6.cell? ⟨w2.heap.size, i, none⟩ = some (.int .i64 (fa : Nat)) := kw6.cell (UI_cell hI.out.row (by rw [hFl]; exact hi) hFi.out)
          have kA := fun ob => (Keep.refl w6).alloc ob
          have hcfa := fun ob => (kA ob).cell hcf
          have hOw := hI.out.own
          obtain ⟨va, vc, hve, hvc, -⟩ := hOw.shape
          subst hve
          have hln : l.length ≤ 4096 := by
            have h1 : (l.map (·.1)).length = ((b.pre.take j).filter (fun j => (shp L).K j)).length := by rw [hI.out.nm]
            rw [List.length_map] at h1
            have h2 : ((b.pre.take j).filter (fun j => (shp L).K j)).length ≤ (b.pre.filter (fun j => (shp L).K j)).length := by
              conv => rhs; rw [← List.take_append_drop j b.pre]
              rw [List.filter_append, List.length_append]; omega
            rw [hb.pre_inn, ← b.mks_inn 0, List.length_map] at h2
            have h3 := b.mks_len 0
            omega
          have kd : Keep wr (w6.alloc (Obj.cells #[.int .i64 (i : Nat), .int .i64 (fa : Nat), .int .i64 (T : Nat)] 59)).drew := (kw6.alloc _).drew
          have hO6 : OwnM _ _ _ _ := own_keep hOw kd
          have hnw : ∀ j u, (UM [(i, fa, T)])[j]? = some u → (w6.alloc (Obj.cells #[.int .i64 (i : Nat), .int .i64 (fa : Nat), .int .i64 (T : Nat)] 59)).drew.cell? ((⟨w6.heap.size, 0, none⟩ : Addr).add j) = some u := newsM w6 i fa T
          have hs6 : w4.heap.size ≤ (w6.alloc (Obj.cells #[.int .i64 (i : Nat), .int .i64 (fa : Nat), .int .i64 (T : Nat)] 59)).drew.heap.size := Nat.le_trans hI.out.sz kd.le
          have hln1 : l.length + 1 ≤ 5864062014805 := by omega
          replace hO6 : Hid _ := hO6
          replace hnw : Hid _ := hnw
          replace hs6 : Hid _ := hs6
          replace hOw : Hid _ := hOw
          replace kA : Hid _ := kA
          clear hCb x0a x1a c0 c1' c2 c3 c4 c5 c6 c7 x0 x1 hci
          go_wp2_with fail
          go_region_law (refine step_appM (B := w4.heap.size) rfl _ _ rfl l (i, fa, T) (.slice va l.length vc) hO6.out hs6.out hln1 ⟨w6.heap.size, 0, none⟩ 1 hnw.out rfl rfl ?_; intro v7 w7 hO7 g7)
          all_goals
            have hTT2 := hTe.out
            have hNx := hI.out.next hT hb hg4 hw2 kd hi hKi hfa.out hc (by rw [hTT2]; exact hO7) g7
            rw [hTT2] at hNx
            obtain ⟨n1, n2, hNx⟩ := hNx
            have tx7 : w7.heap[wr.heap.size]? = _ := (g7.block _ (Nat.lt_of_lt_of_le (Array.getElem?_eq_some_iff.1 tx.out).1 (Nat.le_trans k6.le ((kA.out _).drew).le)) (fun e => by obtain ⟨_, cur, hcu⟩ := own_block hOw.out e.symm; exact absurd (Array.getElem?_eq_some_iff.1 hcu).1 (by omega))).trans (((k6.alloc _).drew.block _ (Array.getElem?_eq_some_iff.1 tx.out).1).trans tx.out)
            have y6 := cell_of_row _ _ 6 _ 83 (0, 0) tx7
            have y7 := cell_of_row _ _ 7 _ 83 (0, 0) tx7
            simp only [List.getElem?_toArray, List.getElem?_cons_zero, List.getElem?_cons_succ] at y6 y7
            have m1 := UI_cell n1 (by rw [hFl]; exact hi) hFi.out
            have m2 := UI_cell n1 (j := (shp L).A i) (by rw [hFl]; exact hA) rfl
            have q2 := frozen_of_row _ _ ((shp L).A i) _ 3 n1
            have m3 : (w7.setCell ⟨w2.heap.size, (shp L).A i, none⟩ (.int .i64 (fa : Nat))).cell? ⟨w2.heap.size, i, none⟩ = some (.int .i64 (fa : Nat)) := UI_cell n2 (by rw [List.length_set, hFl]; exact hi) (by rw [getD_set]; split; rfl; exact hFi.out)
            have m4 := UI_cell n2 (j := (shp L).B i) (by rw [List.length_set, hFl]; exact hB) rfl
            have q4 := frozen_of_row _ _ ((shp L).B i) _ 3 n2
            have hAi : (((shp L).A i : Nat) : Int) < (L.length : Int) := by omega
            have hBi : (((shp L).B i : Nat) : Int) < (L.length : Int) := by omega
            have hAb : (shp L).A i ≤ 2199023255552 := by omega
            have hBb : (shp L).B i ≤ 2199023255552 := by omega
            have y7s : (w7.setCell ⟨w2.heap.size, (shp L).A i, none⟩ (.int .i64 (fa : Nat))).cell? ⟨wr.heap.size, 7, none⟩ = some (.int .i64 ((shp L).B i : Nat)) := by
              rw [← y7]
              exact World.cell?_of_block (neq_setM w7 w2.heap.size _ _ wr.heap.size (by omega))
            obtain ⟨a7, c7, rfl, -, -⟩ := hO7.shape
            replace hNx : Hid _ := hNx
            replace n1 : Hid _ := n1
            replace n2 : Hid _ := n2
            replace tx7 : Hid _ := tx7
            clear hcf hcfa g7 hO7
            rw [show (l ++ [(i, fa, T)]).length = l.length + 1 by simp] at hNx
            go_simp
            go_wp2_with fail
            go_region
            all_goals
              go_simp
              go_wp2_with fail
              go_region
              all_goals
                go_simp
                go_wp2_with fail
                have hR2 := hNx.out.drew.drew
                rw [htn.out] at hR2
                exact ⟨⟨j + 1, _, _, by omega, by go_num, hR2⟩, by simp [intOf]; omega⟩
      · have hjc : ¬ (j : Int) < (b.pre.length : Int) := by omega
        obtain rfl : j = b.pre.length := by omega
        have hnm := hI.nm
        rw [List.take_length, hb.pre_inn] at hnm
        have hfin := marks_one hT hb l (b.mks 0) (by rw [hnm, b.mks_inn]) hI.mks (hb.fr_mks 0)
        obtain ⟨va, vc, hve, hvc, -⟩ := hI.own.shape
        subst hve
        replace hI : Hid _ := hI
        replace hfin : Hid _ := hfin
        replace hnm : Hid _ := hnm
        go_wp2_with fail
        go_ret2
        exact ⟨.slice va l.length vc, by rw [hE.out]; rfl, l, own_mono hI.out.own k04.le, fun h => absurd hE.out h, fun b2 _ h2 => by rw [← hb.one h2]; exact hfin.out, hI.out.kp⟩
  · have c1 : (lvE L != 0) = true := by rw [bne_iff_ne]; exact hE
    replace hE : Hid _ := hE
    clear hC
    go_wp2_with fail
    go_ret2
    exact ⟨.slice none 0 0, [], rfl, OwnM.nil _ _, fun _ => rfl, fun b h _ => absurd h hE.out, k02⟩
end Go.Proofs.Ytaogjiffnebnkaa.Mk
