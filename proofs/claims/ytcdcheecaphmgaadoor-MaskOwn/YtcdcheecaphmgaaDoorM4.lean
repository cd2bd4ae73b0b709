import Derived.Test.YtcdcheecaphmgaaDoorM3
import Derived.Test.YtcdcheecaphmgaaDoorYR3
import Derived.Test.YtcdcheecaphmgaaDoorBB4
import Derived.Deep.LoopGhost
import Derived.Deep.CutRange
import Derived.Deep.CutBlock
set_option linter.unusedVariables false
set_option linter.unusedSimpArgs false
namespace Go.Proofs.YtcdcheecaphmgaaDoor
open Go.RowKit Go.Shelf
attribute [local go_sem] run_store_float
set_option maxRecDepth 100000 in
theorem maskOf_any (i fa te n : Nat) (w : World) (hn : n ≤ 1048576) (h1 : fa ≤ te) (h2 : te ≤ n) :
    Calls Tryd.prog 39 #[.agg #[.int .i64 (i : Nat), .int .i64 (fa : Nat), .int .i64 (te : Nat)], .int .i64 (n : Nat)] w fun e w' => ∃ l g, e = .returned (.slice (some ⟨g, 0, none⟩) (l : List Nat).length l.length) ∧ w.heap.size ≤ g ∧ Bi.Row w' g l ∧ Bi.mkl n (fun i => !decide (fa ≤ i ∧ i < te)) l ∧ Keep w w' := by
  have k0 : Keep w (w.alloc (Obj.cells #[.int .i64 (i : Nat), .int .i64 (fa : Nat), .int .i64 (te : Nat)] 52)) := (Keep.refl w).alloc _
  have hC := Bi.Mask_ok n fa te (w.alloc (Obj.cells #[.int .i64 (i : Nat), .int .i64 (fa : Nat), .int .i64 (te : Nat)] 52)) hn h1 h2
  go_enter Tryd.func39, Tryd.ntmps39
  go_wp2_with fail
  refine hC.mono ?_
  rintro e w1 ⟨l, rfl, hr, hm, k1⟩
  have k1 : Keep _ _ := k1
  go_wp2_with fail
  go_ret
  rw [World.size_alloc] at hr
  exact ⟨l, _, rfl, Nat.le_succ _, hr, hm, k0.trans k1⟩
def cnN (L : List Nd) : Int := if lvE L = 0 then ((lvs L).length : Int) else 0
set_option maxRecDepth 100000 in
theorem rCount_any (a : Option Addr) (cap : Nat) (out : Int) (L : List Nd) (hLn : L.length ≤ 2199023255552) (w : World) (hrd : RdN w a L) :
    Calls Tryd.prog 36 #[.agg #[.int .i64 out, .slice a L.length cap]] w fun e w' => e = .returned (.tuple #[.int .i64 (cnN L), .int .i64 (lvE L)]) ∧ Keep w w' := by
  have k0 : Keep w (w.alloc (Obj.cells #[Value.int IntKind.i64 out, Value.slice a L.length cap] 24)) := (Keep.refl w).alloc _
  have hC := rLeaves_any a cap out L hLn _ (hrd.keep k0)
  have hll : (lvs L).length ≤ 2199023255552 := by
    unfold lvs
    split
    · rename_i h
      exact Nat.le_trans (List.length_filter_le _ _) (Nat.le_trans (ord_len (shE_rgt h).wi) hLn)
    · simp
  go_enter Tryd.func36, Tryd.ntmps36
  go_wp2_with fail
  refine hC.mono ?_
  rintro e w1 ⟨v, rfl, h1, h2, k1⟩
  have k01 := k0.trans k1
  obtain ⟨av, cv, rfl, hcv⟩ := h1.shape
  clear hC h2
  by_cases hE : shE L = 0
  · have c1 : (shE L != 0) = false := by rw [bne_eq_false_iff_eq]; exact hE
    by_cases hM : 4096 < (lvs L).length
    · have c2 : decide (((lvs L).length : Int) > 4096) = true := decide_eq_true (by omega)
      have c3 : decide (4096 < ((lvs L).length : Int)) = true := decide_eq_true (by omega)
      have HE : Hid (lvE L = 3) := by show _ = _; unfold lvE; rw [if_neg (by simpa using hE), if_pos hM]
      have HC : Hid (cnN L = 0) := by show _ = _; unfold cnN; rw [HE.out]; rfl
      replace hE : Hid _ := hE
      go_wp2_with fail
      go_ret2
      exact ⟨by rw [HE.out, HC.out]; rfl, k01⟩
    · have c2 : decide (((lvs L).length : Int) > 4096) = false := decide_eq_false (by omega)
      have c3 : decide (4096 < ((lvs L).length : Int)) = false := decide_eq_false (by omega)
      have HE : Hid (lvE L = 0) := by show _ = _; unfold lvE; rw [if_neg (by simpa using hE), if_neg hM]
      have HC : Hid (cnN L = ((lvs L).length : Int)) := by show _ = _; unfold cnN; rw [if_pos HE.out]
      replace hE : Hid _ := hE
      go_wp2_with fail
      go_ret2
      exact ⟨by rw [HE.out, HC.out]; rfl, k01⟩
  · have c1 : (shE L != 0) = true := by rw [bne_iff_ne]; exact hE
    have HE : Hid (lvE L = shE L) := by show _ = _; unfold lvE; rw [if_pos hE]
    have HC : Hid (cnN L = 0) := by show _ = _; unfold cnN; rw [if_neg (by rw [HE.out]; exact hE)]
    replace hE : Hid _ := hE
    go_wp2_with fail
    go_ret2
    exact ⟨by rw [HC.out, HE.out]; rfl, k01⟩
/-- Whole numbers in a row of one's own. -/
def OwnQ (B : Nat) (w : World) (v : Value) (l : List Nat) : Prop := w.ownsRow B 3 1 v l.length (UI l)
theorem OwnQ.cells {B : Nat} {w : World} {v : Value} {l : List Nat} {x : Nat} (h : OwnQ B w v (l ++ [x])) : ∃ g cap, v = .slice (some ⟨g, 0, none⟩) (l.length + 1) cap ∧ B ≤ g ∧ l.length + 1 ≤ cap ∧ w.cell? ⟨g, l.length, none⟩ = some (.int .i64 (x : Nat)) ∧ OwnQ B w (.slice (some ⟨g, 0, none⟩) l.length cap) l := by
  rcases h.2 with ⟨h1, h2⟩ | ⟨g, cap, cur, hv, hg, hh, h1, h2, h3, h4⟩
  · simp at h2
  · have hl : (l ++ [x]).length = l.length + 1 := by simp
    rw [hl] at hv h1 h4
    refine ⟨g, cap, hv, hg, h1, ?_, by simp [UI], .inr ⟨g, cap, cur, rfl, hg, hh, by omega, h2, h3, ?_⟩⟩
    · have e1 : cur.toList[l.length]? = (UI (l ++ [x]))[l.length]? := by rw [← h4, List.getElem?_take, if_pos (by omega)]
      rw [cell_of_row w g _ cur 3 (0, 0) hh]
      have e2 : (UI (l ++ [x]))[l.length]? = some (.int .i64 (x : Nat)) := by simp [UI]
      rw [e2] at e1
      simpa using e1
    · have := congrArg (List.take l.length) h4
      rw [List.take_take, Nat.min_eq_left (by omega)] at this
      rw [Nat.mul_one, this]
      simp [UI]
theorem appQ_run (B : Nat) (w : World) (ty : Nat) (v : Value) (l ys : List Nat) (hown : OwnQ B w v l) (hB : B ≤ w.heap.size) (ad : Addr) (c : Nat) (hnews : ∀ j u, (UI ys)[j]? = some u → w.cell? (ad.add j) = some u) (hlen : l.length + ys.length ≤ 17592186044416) :
    ∃ v' w', (Builtin.append_ #[47, 47] ty #[v, .slice (some ad) ys.length c]).run Tryd.prog w = .ok v' w' ∧ OwnQ B w' v' (l ++ ys) ∧ w.grownBy w' v.ownBlock := by
  obtain ⟨i0, hi, hz0, hz1, hz2⟩ := info_parts i3
  have h1 : ∀ u ∈ UI ys, u.oneCell' = true := by intro u hu; obtain ⟨_, _, rfl⟩ := List.mem_map.1 hu; rfl
  obtain ⟨v', w', hr, h2, h3, -⟩ := run_append_own (P := Tryd.prog) w B 47 ty 3 i0 (.int .i64 0) 1 8 Tryd.underlying47 hi hz0 hz1 hz2 rfl (by decide) v _ _ hown ad ys.length c (UI ys) (by simp [UI]) hnews h1 (by simp only [maxLen]; omega) (by omega) hB
  refine ⟨v', w', hr, ?_, h3⟩
  unfold OwnQ; rw [List.length_append]; simpa [UI] using h2
theorem wpList_appQ (B : Nat) (w : World) {ops : Array Oper} {rest : List Oper} {o : Oper} {a : Act} {Q : Exit → Act → World → Prop} (hgd : o.guard = none) (s x : Operand)
    (hop : o.op = .call { callee := .builtin .append, args := #[s, x], argTypes := #[47, 47] }) (l ys : List Nat) (v : Value) (hs : a.eval s = v) (hown : OwnQ B w v l) (hB : B ≤ w.heap.size) (ad : Addr) (k c : Nat) (hx : a.eval x = .slice (some ad) k c) (hk : k = ys.length)
    (hnews : ∀ j u, (UI ys)[j]? = some u → w.cell? (ad.add j) = some u) (hlen : l.length + ys.length ≤ 17592186044416)
    (hK : ∀ v' w', OwnQ B w' v' (l ++ ys) → w.grownBy w' v.ownBlock → wpList Tryd.prog ops Q rest (a.put o.dst v') w') :
    wpList Tryd.prog ops Q (o :: rest) a w := by
  subst hk
  refine wpList_plain hgd fun K hK' => ?_
  obtain ⟨v', w', hrun, r1, r2⟩ := appQ_run B w o.type v l ys hown hB ad c hnews hlen
  unfold Oper.wp
  simp [execOp, hop, resolve, invoke, builtin, hs, hx, hrun, Result.andThen]
  exact hK' _ _ (hK v' w' r1 r2)
theorem OwnQ.nilOr {B : Nat} {w : World} {v : Value} {l : List Nat} (h : OwnQ B w v l) : ∃ a c, v = .slice a l.length c ∧ l.length ≤ c := by
  rcases h.2 with ⟨h1, h2⟩ | ⟨g, cap, cur, hv, hg, hh, h1, h2, h3, h4⟩
  · exact ⟨none, 0, by rw [h1, h2], by omega⟩
  · exact ⟨_, _, hv, h1⟩
end Go.Proofs.YtcdcheecaphmgaaDoor
