import Derived.Test.YtaogjiffnebnkaaProg
import Derived.Test.YtaogjiffnebnkaaJYMM
import Derived.Test.YtaogjiffnebnkaaKYT5
import Derived.Test.YtaogjiffnebnkaaKYT6
import Derived.Test.YtaogjiffnebnkaaKYU1
import Derived.Test.YtaogjiffnebnkaaKYMM
import Derived.Test.YtaogjiffnebnkaaKM1
import Derived.Test.YtaogjiffnebnkaaKM2
import Derived.Test.YtaogjiffnebnkaaKM3
import Derived.WalkKit
import Derived.WalkSpells
import Derived.WalkLawsBesides
import Derived.Deep.Draws
import Derived.Deep.QuietTactic
import Derived.BigQuiet
import Derived.Laws.Externs
import Derived.Laws.CopyOwn
import Derived.RangeFuncBox
import Derived.RangeFuncLeaves
import Derived.RangeFuncCalls
import Derived.RangeFuncRecord
import Derived.Below
import Derived.Shelf.Abstract
import Derived.OwnWalkIn
import Derived.TacticsInMore
import Derived.LoopNIn
import Derived.LoopIn
import Derived.Sort.LoopGhostIn
import Derived.Deep.RegionLaw
import Derived.Deep.RegionWith
import Derived.Deep.RegionHeld3
import Derived.Stop.RegionWithIn
set_option linter.unusedVariables false
set_option linter.unusedSimpArgs false
namespace Go.Proofs.Ytaogjiffnebnkaa.Mk
open Go.RowKit Go.Shelf
attribute [local go_sem] Oper.semAt_some
def inn (L : List Nd) : List Nat := if shE L = 0 then (ord (shp L) L.length).filter (fun i => decide ((L.getD i nd0).kd = 2 ∨ (L.getD i nd0).kd = 3)) else []
end Go.Proofs.Ytaogjiffnebnkaa.Mk
set_option linter.unusedVariables false
set_option linter.unusedSimpArgs false
namespace Go.Proofs.Ytaogjiffnebnkaa.Mk
open Go.RowKit Go.Shelf
/-- A vector too short for a question. -/
def lackB (L : List Nd) (m : Nat) : Bool := L.any fun n => decide ((n.kd = 2 ∨ n.kd = 3) ∧ (m : Int) ≤ n.ft)
theorem lackB_yes {L : List Nd} {m k : Nat} (hk : k < L.length) (h : ((L.getD k nd0).kd = 2 ∨ (L.getD k nd0).kd = 3) ∧ (m : Int) ≤ (L.getD k nd0).ft) : lackB L m = true := by
  unfold lackB
  rw [List.any_eq_true]
  refine ⟨L.getD k nd0, ?_, decide_eq_true h⟩
  simp [List.getD, hk]
theorem lackB_no {L : List Nd} {m : Nat} (h : ∀ k, k < L.length → ¬ (((L.getD k nd0).kd = 2 ∨ (L.getD k nd0).kd = 3) ∧ (m : Int) ≤ (L.getD k nd0).ft)) : lackB L m = false := by
  unfold lackB
  rw [List.any_eq_false]
  intro n hn
  obtain ⟨i, hi, rfl⟩ := List.getElem_of_mem hn
  have := h i hi
  simp only [List.getD, List.getElem?_eq_getElem hi, Option.getD_some] at this
  simpa using this
end Go.Proofs.Ytaogjiffnebnkaa.Mk
set_option linter.unusedVariables false
set_option linter.unusedSimpArgs false
namespace Go.Proofs.Ytaogjiffnebnkaa.Mk
open Go.RowKit Go.Shelf
attribute [local go_sem] Oper.semAt_some
theorem Rgt.ft {L : List Nd} (h : Rgt L) {i : Nat} (hi : i < L.length) (hk : (shp L).K i = true) : 0 ≤ (L.getD i nd0).ft := by
  have hr := h.2 i hi
  simp only [shp, decide_eq_true_eq] at hk
  generalize L.getD i nd0 = n at *
  unfold rightB spl at hr
  rcases hk with hk | hk
  · rw [if_neg (by omega), if_pos hk] at hr
    simp only [Bool.and_eq_true, decide_eq_true_eq] at hr
    omega
  · rw [if_neg (by omega), if_neg (by omega), if_pos hk] at hr
    simp only [Bool.and_eq_true, decide_eq_true_eq] at hr
    omega
end Go.Proofs.Ytaogjiffnebnkaa.Mk
set_option linter.unusedVariables false
set_option linter.unusedSimpArgs false
namespace Go.Proofs.Ytaogjiffnebnkaa.Mk
open Go.RowKit Go.Shelf
attribute [local go_sem] Oper.semAt_some
/-- A list that is gathered in a box while an iterator runs. -/
structure ColR (Bl Bs R : Nat) (w3 : World) (l : List Nat) (T : Nat → Prop) (W : World) : Prop where
  box : ∃ v, W.heap[Bl]? = some (.cells #[v] 55 (0, 0)) ∧ OwnI W v l ∧ ∀ b, v.ownBlock = some b → ¬ T b ∧ R + 2 ≤ b
  tb : ∀ g, T g → Bs ≤ g ∧ g < W.heap.size
  be : Below Bl w3 W
  sz : R ≤ W.heap.size
theorem ColR.put {Bl Bs R : Nat} {w3 : World} {l : List Nat} {T : Nat → Prop} {A : World} {r : Nat} {o' : Obj} (hB : Bl < Bs) (hBR : Bs ≤ R) (h : ColR Bl Bs R w3 l T A) (h1 : R ≤ r) (h2 : r < R + 2) : ColR Bl Bs R w3 l T (A.putObj r o') := by
  obtain ⟨⟨v, q1, q2, q3⟩, q4, q5, q6⟩ := h
  have kp : ∀ g, g ≠ r → (A.putObj r o').heap[g]? = A.heap[g]? := fun g hg => World.putObj_heap_other hg
  refine ⟨⟨v, ?_, ?_, q3⟩, by simpa using q4, ?_, by simpa using q6⟩
  · rw [kp _ (by omega)]; exact q1
  · exact q2.same (fun b hb => kp b (by have := (q3 b hb).2; omega))
  · exact ⟨q5.os, q5.tape, q5.output, by simpa using q5.size, fun g hg => (kp g (by omega)).trans (q5.block g hg)⟩
/-- One more. -/
theorem ColR.app {Bl Bs R : Nat} {w3 : World} {l : List Nat} {T : Nat → Prop} {A B : World} {o : Obj} {v v' : Value} {x : Nat} (hB : Bl < Bs) (hBR : Bs ≤ R) (h : ColR Bl Bs R w3 l T A) (hz : R + 2 ≤ A.heap.size) (hbox : A.heap[Bl]? = some (.cells #[v] 55 (0, 0))) (hv3 : ∀ b, v.ownBlock = some b → ¬ T b ∧ R + 2 ≤ b)
    (ho : OwnI B v' (l ++ [x])) (hgr : (A.alloc o).grownBy B v.ownBlock) (hsep : v'.ownBlock = v.ownBlock ∨ v'.ownBlock = some (A.heap.size + 1)) :
    ColR Bl Bs R w3 (l ++ [x]) T (B.setCell ⟨Bl, 0, none⟩ v') ∧ (∀ g, g < A.heap.size → g ≠ Bl → v.ownBlock ≠ some g → (B.setCell ⟨Bl, 0, none⟩ v').heap[g]? = A.heap[g]?) ∧ B.cell? ⟨Bl, 0, none⟩ = some v ∧ B.frozen? ⟨Bl, 0, none⟩ = false ∧ A.heap.size ≤ B.heap.size := by
  have hb : Below A.heap.size A (A.alloc o) := (Below.refl A.heap.size A).alloc (Nat.le_refl _) o
  have kB : ∀ g, g < A.heap.size → v.ownBlock ≠ some g → B.heap[g]? = A.heap[g]? := fun g hg hne => by rw [hgr.block g (Nat.lt_of_lt_of_le hg hb.size) (fun e => hne e.symm), hb.block g hg]
  have hBl : v.ownBlock ≠ some Bl := fun e => by have := (hv3 Bl e).2; omega
  have boxB : B.heap[Bl]? = some (.cells #[v] 55 (0, 0)) := by rw [kB Bl (by omega) hBl]; exact hbox
  have szB : A.heap.size ≤ B.heap.size := Nat.le_trans hb.size hgr.size
  have ne := neq_set B Bl 0 v'
  have vlt : ∀ b, v'.ownBlock = some b → ¬ T b ∧ R + 2 ≤ b := by
    intro b e
    rcases hsep with e2 | e2
    · rw [e2] at e; exact hv3 b e
    · rw [e2] at e
      simp only [Option.some.injEq] at e
      subst e
      exact ⟨fun h' => by have := h.tb _ h'; omega, by omega⟩
  refine ⟨⟨⟨v', ?_, ?_, vlt⟩, fun g hg => by have := h.tb g hg; simp; omega, ?_, by simp; omega⟩, ?_, ?_, ?_, szB⟩
  · exact heap_setCell_same B Bl 0 _ 55 v' boxB
  · exact ho.same (fun b e => ne b (by have := (vlt b e).2; omega))
  · have h5 := h.be
    exact ⟨hgr.os.trans (hb.os.trans h5.os), hgr.tape.trans (hb.tape.trans h5.tape), hgr.output.trans (hb.output.trans h5.output), by have := h5.size; simp; omega, fun g hg => by rw [ne g (by omega), kB g (by omega) (fun e => by have := (hv3 g e).2; omega)]; exact h5.block g hg⟩
  · intro g hg h1 h2; rw [ne g h1]; exact kB g hg h2
  · rw [cell_of_row B Bl 0 _ 55 (0, 0) boxB]; rfl
  · exact frozen_of_row B Bl 0 _ 55 boxB
theorem news1 (W : World) (x : Nat) : ∀ j u, (UI [x])[j]? = some u → (W.alloc (Obj.cells #[Value.int .i64 (x : Nat)] 3)).cell? ((⟨W.heap.size, 0, none⟩ : Addr).add j) = some u := by
  intro j u hj
  match j, hj with
  | 0, hj => simp [UI] at hj; subst hj; simp [Addr.add]
  | j + 1, hj => simp [UI] at hj
end Go.Proofs.Ytaogjiffnebnkaa.Mk
set_option linter.unusedVariables false
set_option linter.unusedSimpArgs false
namespace Go.Proofs.Ytaogjiffnebnkaa.Mk
open Go.RowKit
set_option maxRecDepth 100000 in
theorem rCats_any (a : Option Addr) (c : Nat) (l : List Int) (w : World) (hl : l.length ≤ 17592186044416) (hr : RdI w a l) :
    Calls Try.prog 127 #[.slice a l.length c] w fun e w' => e = .returned (.bool (catsB l)) ∧ w' = w := by
  go_enter Try.func127, Try.ntmps127
  go_wp2
  go_loop [7] (fun i => ∃ k : Nat, k ≤ l.length ∧ i = .int .i64 k ∧ Hid (∀ i, i < k → (0 ≤ l.getD i 0 ∧ l.getD i 0 < 1024 ∧ (0 < i → l.getD (i - 1) 0 < l.getD i 0)))) (fun i => l.length - (intOf i).toNat)
  case atStart => exact ⟨0, by omega, rfl, by intro i hi; omega⟩
  case round =>
    obtain ⟨k, hk, rfl, hinv⟩ := hrel
    by_cases hkl : k < l.length
    · obtain ⟨b, o, rfl, hc⟩ := hr k hkl
      obtain ⟨x, hx⟩ : ∃ x, l.getD k 0 = x := ⟨_, rfl⟩
      rw [hx] at hc
      have Hx : Hid (l.getD k 0 = x) := hx
      clear hx
      by_cases hg : 0 ≤ x ∧ x < 1024 ∧ (0 < k → l.getD (k - 1) 0 < x)
      · obtain ⟨g1, g2, g3⟩ := hg
        have hn : Hid (∀ i, i < k + 1 → (0 ≤ l.getD i 0 ∧ l.getD i 0 < 1024 ∧ (0 < i → l.getD (i - 1) 0 < l.getD i 0))) := by
          intro i hi
          by_cases e : i = k
          · subst e; rw [Hx.out]; exact ⟨g1, g2, g3⟩
          · exact hinv.out i (by omega)
        by_cases hk0 : 0 < k
        · obtain ⟨b', o', e', hc'⟩ := hr (k - 1) (by omega)
          simp only [Option.some.injEq, Addr.mk.injEq, and_true] at e'
          obtain ⟨rfl, rfl⟩ := e'
          have g4 := g3 hk0
          obtain ⟨y, hy⟩ : ∃ y, l.getD (k - 1) 0 = y := ⟨_, rfl⟩
          rw [hy] at hc' g4
          clear hy g3
          go_wp2
          go_round
          case rel => exact ⟨k + 1, by omega, by go_num, hn⟩
          case measure => simp [intOf]; omega
        · have e0 : k = 0 := by omega
          subst e0
          clear g3
          rw [Nat.add_zero] at hc
          go_wp2
          go_round
          case rel => exact ⟨1, by omega, by go_num, hn⟩
          case measure => simp [intOf]; omega
      · have hf : Hid (¬ Cats l) := by
          intro h
          have := h.2 k hkl
          rw [Hx.out] at this
          exact hg this
        by_cases g1 : 0 ≤ x
        · by_cases g2 : x < 1024
          · have hk0 : 0 < k := by
              rcases Nat.eq_zero_or_pos k with e | e
              · exact absurd ⟨g1, g2, fun h => by omega⟩ hg
              · exact e
            have g4 : ¬ l.getD (k - 1) 0 < x := fun h => hg ⟨g1, g2, fun _ => h⟩
            obtain ⟨b', o', e', hc'⟩ := hr (k - 1) (by omega)
            simp only [Option.some.injEq, Addr.mk.injEq, and_true] at e'
            obtain ⟨rfl, rfl⟩ := e'
            obtain ⟨y, hy⟩ : ∃ y, l.getD (k - 1) 0 = y := ⟨_, rfl⟩
            rw [hy] at hc' g4
            clear hy hg
            go_wp2
            go_ret
            exact ⟨ret_bool (catsB_no hf.out).symm, rfl⟩
          · clear hg
            go_wp2
            go_ret
            exact ⟨ret_bool (catsB_no hf.out).symm, rfl⟩
        · clear hg
          go_wp2
          go_ret
          exact ⟨ret_bool (catsB_no hf.out).symm, rfl⟩
    · have hke : k = l.length := by omega
      have hR : Hid (catsB l = decide (0 < l.length)) := by
        show _ = _
        rw [Bool.eq_iff_iff, decide_eq_true_eq, catsB_iff]
        have := hinv.out
        rw [hke] at this
        exact ⟨fun h => by have := h.1; omega, fun h => ⟨by omega, this⟩⟩
      clear hke
      go_wp2
      go_ret
      exact ⟨ret_bool hR.out.symm, rfl⟩
set_option maxRecDepth 100000 in
set_option maxHeartbeats 1000000 in
theorem rnode_any (w : World) (n : Nd) (N : Nat) (ca : Option Addr) (cap : Nat) (hsz : n.cs.length ≤ 17592186044416) (hrd : RdI w ca n.cs) :
    Calls Try.prog 119 #[n.v ca cap, .int .i64 (N : Nat)] w fun e w' => e = .returned (.bool (rightB n N)) ∧ Keep w w' := by
  unfold Nd.v
  have hb := f64bits n.th
  have hN := fun wx => rnan_any n.th wx
  have hC := fun (wx : World) (k : Keep w wx) => rCats_any ca cap n.cs wx hsz (hrd.keep k)
  have k0 := fun o => (Keep.refl w).alloc o
  have HR : Hid (rightB n N = (if n.kd = 1 then decide (n.ft = 0) && (decide (n.th = 0) && decide (n.cs.length = 0)) && decide (n.ms = 0) && decide (n.lf = 0) && decide (n.rt = 0)
    else if n.kd = 2 then decide (n.vl = 0 ∧ 0 ≤ n.ft ∧ n.ft < 65536 ∧ (n.ms = 1 ∨ n.ms = 2) ∧ (1 ≤ n.lf ∧ n.lf < (N : Int)) ∧ (1 ≤ n.rt ∧ n.rt < (N : Int))) && !nanB n.th && decide (n.cs.length = 0)
    else if n.kd = 3 then decide (n.vl = 0 ∧ 0 ≤ n.ft ∧ n.ft < 65536 ∧ (n.ms = 1 ∨ n.ms = 2) ∧ (1 ≤ n.lf ∧ n.lf < (N : Int)) ∧ (1 ≤ n.rt ∧ n.rt < (N : Int))) && decide (n.th = 0) && catsB n.cs
    else false)) := rfl
  generalize rightB n N = R at HR ⊢
  generalize nanB n.th = nn at *
  generalize catsB n.cs = cc at *
  obtain ⟨kd, vl, ft, th, cs, ms, lf, rt⟩ := n
  simp only at *
  by_cases k1 : kd = 1
  · subst k1
    rw [if_pos rfl] at HR
    go_enter Try.func119, Try.ntmps119
    go_wp2_with fail
    all_goals
      go_ret
      refine ⟨ret_bool ?_, k0 _⟩
      rw [HR.out]
      clear HR hC hN hb k0
      simp_all
      try first | rfl | omega | (rw [Bool.eq_iff_iff]; simp; done) | grind
  · rw [if_neg k1] at HR
    have q1 : ((kd : Int) == 1) = false := by rw [beq_eq_false_iff_ne]; omega
    by_cases k2 : kd = 2
    · subst k2
      rw [if_pos rfl] at HR
      go_enter Try.func119, Try.ntmps119
      go_wp2_with (go_at_call 126; refine (hN _).mono ?_; rintro e w' ⟨rfl, rfl⟩)
      all_goals
        go_ret
        refine ⟨ret_bool ?_, k0 _⟩
        rw [HR.out]
        clear HR hC hN hb k0 q1
        grind
    · rw [if_neg k2] at HR
      have q2 : ((kd : Int) == 2) = false := by rw [beq_eq_false_iff_ne]; omega
      by_cases k3 : kd = 3
      · subst k3
        rw [if_pos rfl] at HR
        go_enter Try.func119, Try.ntmps119
        go_wp2_with (go_at_call 127; refine (hC _ (k0 _)).mono ?_; rintro e w' ⟨rfl, rfl⟩)
        all_goals
          go_ret
          refine ⟨ret_bool ?_, k0 _⟩
          rw [HR.out]
          clear HR hC hN hb k0 q1 q2
          grind
      · rw [if_neg k3] at HR
        have q3 : ((kd : Int) == 3) = false := by rw [beq_eq_false_iff_ne]; omega
        go_enter Try.func119, Try.ntmps119
        go_wp2_with fail
        go_ret
        exact ⟨ret_bool HR.out.symm, k0 _⟩
end Go.Proofs.Ytaogjiffnebnkaa.Mk
