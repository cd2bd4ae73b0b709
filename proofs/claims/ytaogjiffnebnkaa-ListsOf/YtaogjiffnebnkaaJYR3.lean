import Derived.Test.YtaogjiffnebnkaaP4
import Derived.Test.YtaogjiffnebnkaaProg
import Derived.Test.YtaogjiffnebnkaaJYR2
import Derived.Test.YtaogjiffnebnkaaKYT5
import Derived.Test.YtaogjiffnebnkaaKYT6
import Derived.Test.YtaogjiffnebnkaaKYU1
import Derived.Test.YtaogjiffnebnkaaKYMM
import Derived.Test.YtaogjiffnebnkaaKM1
import Derived.Test.YtaogjiffnebnkaaKM2
import Derived.Test.YtaogjiffnebnkaaKM3
import Derived.WalkKit
import Derived.WalkSpells
import Derived.WalkLawsBesides
import Derived.Deep.Draws
import Derived.Deep.QuietTactic
import Derived.BigQuiet
import Derived.Laws.Externs
import Derived.Laws.CopyOwn
import Derived.RangeFuncBox
import Derived.RangeFuncLeaves
import Derived.RangeFuncCalls
import Derived.RangeFuncRecord
import Derived.Below
import Derived.Shelf.Abstract
import Derived.OwnWalkIn
import Derived.TacticsInMore
import Derived.LoopNIn
import Derived.LoopIn
import Derived.Sort.LoopGhostIn
import Derived.Deep.RegionLaw
import Derived.Deep.RegionWith
import Derived.Deep.RegionHeld3
import Derived.Stop.RegionWithIn
set_option linter.unusedVariables false
set_option linter.unusedSimpArgs false
namespace Go.Proofs.Ytaogjiffnebnkaa.Mk
open Go.RowKit Go.Shelf
attribute [local go_sem] Oper.semAt_some
attribute [local go_sem] run_store_float
theorem rOrder_any (w : World) (a : Option Addr) (cap : Nat) (out : Int) (L : List Nd) (hLn : L.length ≤ 2199023255552) (hE : shE L = 0) (hrd : RdN w a L) :
    Calls Try.prog 60 #[.agg #[.int .i64 out, .slice a L.length cap]] w fun e w' => ∃ v, e = .returned v ∧ OwnI w' v (ord (shp L) L.length) ∧ (∀ b, v.ownBlock = some b → w.heap.size ≤ b) ∧ Keep w w' :=
  (callsIn_wide (n := 3)).1 (rOrder_in 3 (by omega) w a cap out L hLn hE hrd)
/-- The kinds asked for. -/
def knd (L : List Nd) (leaf : Bool) (l : List Nat) : List Nat := l.filter (fun i => (decide ((L.getD i nd0).kd = 2 ∨ (L.getD i nd0).kd = 3)) != leaf)
theorem Rgt.kd1 {L : List Nd} (h : Rgt L) {i : Nat} (hi : i < L.length) : (((L.getD i nd0).kd : Int) == 1) = !decide ((L.getD i nd0).kd = 2 ∨ (L.getD i nd0).kd = 3) := by
  have hrt := h.2 i hi
  unfold rightB at hrt
  by_cases h1 : (L.getD i nd0).kd = 1
  · rw [h1]; rfl
  · have : (L.getD i nd0).kd = 2 ∨ (L.getD i nd0).kd = 3 := by
      rw [if_neg h1] at hrt
      split at hrt
      · exact .inl (by assumption)
      · split at hrt
        · exact .inr (by assumption)
        · cases hrt
    rw [decide_eq_true this]
    show _ = false
    rw [beq_eq_false_iff_ne]; omega
/-- A list that is gathered beside another one. -/
structure KIt (w : World) (o0 : Obj) (gO : Nat) (lO : List Nat) (vO : Value) (vo : Value) (wr : World) (l : List Nat) : Prop where
  ownO : OwnI wr vO lO
  own : OwnI wr vo l
  bO : ∀ b, vO.ownBlock = some b → w.heap.size ≤ b ∧ b < gO
  bo : ∀ b, vo.ownBlock = some b → gO ≤ b
  tb : wr.heap[w.heap.size]? = some o0
  kp : Keep w wr
  lt : w.heap.size < gO
  sz : gO ≤ wr.heap.size
theorem KIt.app {w : World} {o0 : Obj} {gO : Nat} {lO : List Nat} {vO vo v' : Value} {wr B : World} {l : List Nat} {x : Nat} {o : Obj} (I : KIt w o0 gO lO vO vo wr l) (ho : OwnI B v' (l ++ [x])) (hgr : (wr.alloc o).grownBy B vo.ownBlock) (hsep : v'.ownBlock = vo.ownBlock ∨ v'.ownBlock = some (wr.heap.size + 1)) : KIt w o0 gO lO vO v' B (l ++ [x]) := by
  obtain ⟨k2, s2, o2, t2, u2⟩ := grown_al hgr
  have h1 := I.lt
  have h2 := I.sz
  have kk : ∀ g, g < gO → B.heap[g]? = wr.heap[g]? := fun g hg => k2 g (by omega) (fun e => by have := I.bo g e; omega)
  refine ⟨I.ownO.same (fun b hb => kk b (I.bO b hb).2), ho, I.bO, ?_, (kk _ h1).trans I.tb, ?_, h1, by omega⟩
  · intro b hb
    rcases hsep with e | e
    · rw [e] at hb; exact I.bo b hb
    · rw [e] at hb
      simp only [Option.some.injEq] at hb
      omega
  · exact ⟨o2.trans I.kp.os, t2.trans I.kp.tape, u2.trans I.kp.output, by have := I.kp.size; omega, fun g hg => (kk g (by omega)).trans (I.kp.block g hg)⟩
set_option maxRecDepth 100000 in
set_option maxHeartbeats 4000000 in
theorem rkind_in (leaf : Bool) (n : Nat) (hn : 3 ≤ n) (w : World) (a : Option Addr) (cap : Nat) (out : Int) (L : List Nd) (hLn : L.length ≤ 2199023255552) (hE : shE L = 0) (hrd : RdN w a L) :
    CallsIn Fence.wide n Try.prog 91 #[.agg #[.int .i64 out, .slice a L.length cap], .bool leaf] w fun e w' => ∃ v, e = .returned (.tuple #[v, .int .i64 0]) ∧ OwnI w' v (knd L leaf (ord (shp L) L.length)) ∧ (∀ b, v.ownBlock = some b → w.heap.size ≤ b) ∧ Keep w w' := by
  have h1 : 1 ≤ n := by omega
  have hR := shE_rgt hE
  have hT := shE_tr hE
  have hS := fun (wx : World) (k : Keep w wx) => rShape_any wx a cap out L hLn (hrd.keep k)
  have hO := fun (wx : World) (k : Keep w wx) => rOrder_any wx a cap out L hLn hE (hrd.keep k)
  rw [hE] at hS
  have k0 : Keep w (w.alloc (Obj.cells #[Value.int IntKind.i64 out, Value.slice a L.length cap] 54)) := (Keep.refl w).alloc _
  have tb : (w.alloc (Obj.cells #[Value.int IntKind.i64 out, Value.slice a L.length cap] 54)).heap[w.heap.size]? = some (Obj.cells #[Value.int IntKind.i64 out, Value.slice a L.length cap] 54 (0, 0)) := heap_alloc_new w _
  refine callsIn_of_wp Try.func91 rfl trivial ?_ rfl
  simp only [Try.ntmps91, List.size_toArray, List.length_cons, List.length_nil, Nat.reduceAdd, Nat.reduceSub, Array.replicate_succ, Array.replicate_zero, List.push_toArray, List.append_toArray, List.nil_append, List.cons_append]
  gi_wp2_with fail
  generalize w.alloc _ = w1 at k0 tb ⊢
  refine ⟨trivial, ?_⟩
  refine (callsIn_wide.2 (hS _ k0)).mono ?_
  rintro e w2 ⟨rfl, k2⟩
  have k02 := k0.trans k2
  have hz1 : w.heap.size < w1.heap.size := (Array.getElem?_eq_some_iff.1 tb).1
  have tb2 := (k2.block _ hz1).trans tb
  have c0 : w2.cell? ⟨w.heap.size, 0, none⟩ = some (.int .i64 out) := by rw [cell_of_row _ _ 0 _ 54 (0, 0) tb2]; rfl
  have c1 : w2.cell? ⟨w.heap.size, 1, none⟩ = some (.slice a L.length cap) := by rw [cell_of_row _ _ 1 _ 54 (0, 0) tb2]; rfl
  gi_wp2_with fail
  refine ⟨trivial, ?_⟩
  refine (callsIn_wide.2 (hO _ k02)).mono ?_
  rintro e w3 ⟨vO, rfl, ownO, bO, k3⟩
  obtain ⟨aO, cO, rfl, hcO⟩ := ownO.shape
  have hz3 : w.heap.size < w3.heap.size := by have := k2.le; have := k3.le; omega
  have I0 : KIt w (Obj.cells #[Value.int IntKind.i64 out, Value.slice a L.length cap] 54 (0, 0)) w3.heap.size (ord (shp L) L.length) (.slice aO (ord (shp L) L.length).length cO) (.slice none 0 0) w3 (knd L leaf []) :=
    ⟨ownO, OwnI.nil _, fun b hb => ⟨Nat.le_trans k02.le (bO b hb), own_lt ownO hb⟩, fun b hb => (by cases hb), (k3.block _ (by have := k2.le; omega)).trans tb2, k02.trans k3, hz3, Nat.le_refl _⟩
  have hlo := ord_len hR.wi
  have hlt := ord_lt hR.wi
  generalize w3.heap.size = gO at I0
  generalize hlO : ord (shp L) L.length = lO at *
  replace hlO : Hid _ := hlO
  clear hS hO k0 k02 k2 k3 tb tb2 c0 c1 ownO bO hz1 hz3
  gi_wp2_with fail
  gi_loopw [8, 22] (fun vo iv wr => ∃ k : Nat, k ≤ lO.length ∧ iv = .int .i64 k ∧ KIt w (Obj.cells #[Value.int IntKind.i64 out, Value.slice a L.length cap] 54 (0, 0)) gO lO (.slice aO lO.length cO) vo wr (knd L leaf (lO.take k))) (fun _ iv _ => lO.length - (intOf iv).toNat)
  case atStart => exact ⟨0, by omega, rfl, I0⟩
  case round =>
    obtain ⟨k, hk, rfl, I⟩ := hrel
    clear I0
    by_cases hkl : k < lO.length
    · have hkc : (k : Int) < (lO.length : Int) := by omega
      obtain ⟨g, c', hv, -, -, hcells⟩ := I.ownO.cells (by omega)
      simp only [Value.slice.injEq] at hv
      obtain ⟨rfl, -, -⟩ := hv
      have hci := hcells k hkl
      have hxN : lO.getD k 0 < L.length := hlt _ (by simp [List.getD, hkl])
      have htk : lO.take (k + 1) = lO.take k ++ [lO.getD k 0] := by rw [List.take_succ_eq_append_getElem hkl]; simp [List.getD, hkl]
      have HK : Hid (knd L leaf (lO.take (k + 1)) = knd L leaf (lO.take k) ++ (if (decide ((L.getD (lO.getD k 0) nd0).kd = 2 ∨ (L.getD (lO.getD k 0) nd0).kd = 3)) != leaf then [lO.getD k 0] else [])) := by
        show _ = _
        rw [htk]; unfold knd
        rw [List.filter_append, List.filter_cons]
        rfl
      have hkl2 : (knd L leaf (lO.take k)).length + [lO.getD k 0].length ≤ 17592186044416 := by
        have := List.length_filter_le (fun i => (decide ((L.getD i nd0).kd = 2 ∨ (L.getD i nd0).kd = 3)) != leaf) (lO.take k)
        unfold knd
        simp at this ⊢
        omega
      generalize lO.getD k 0 = x at *
      have hxc : (x : Int) < (L.length : Int) := by omega
      obtain ⟨b, o, ca, cp, rfl, hnd⟩ := (hrd.keep I.kp) x hxN
      have c0 := hnd.c0
      have hk1 := hR.kd1 hxN
      have t1 : wr.cell? ⟨w.heap.size, 1, none⟩ = some (.slice (some ⟨b, o, none⟩) L.length cap) := by rw [cell_of_row _ _ 1 _ 54 (0, 0) I.tb]; rfl
      generalize decide ((L.getD x nd0).kd = 2 ∨ (L.getD x nd0).kd = 3) = pv at hk1 HK
      generalize (L.getD x nd0).kd = kd at hk1 c0
      obtain ⟨av, cv, hvv, hcv⟩ := I.own.shape
      have ownL := I.own
      subst hvv
      generalize hl : knd L leaf (lO.take k) = l at *
      clear hcells htk hnd hl
      cases leaf <;> cases pv
      · have HF : Hid (knd L false (lO.take (k + 1)) = l) := by show _ = _; rw [HK.out]; simp
        clear ownL
        gi_wp2_with fail
        go_roundw
        case rel => exact ⟨k + 1, by omega, by go_num, by rw [HF.out]; exact I⟩
        case measure => simp [intOf]; omega
      · have HF : Hid (knd L false (lO.take (k + 1)) = l ++ [x]) := by show _ = _; rw [HK.out]; simp
        gi_wp2_with (gi_at_builtin; refine wpListIn_appI _ rfl _ _ rfl l [x] _ rfl (World.ownsRow.alloc ownL _) ⟨wr.heap.size, 0, none⟩ 1 1 rfl rfl (by simp) ?_ hkl2 ?_)
        · exact news1 wr x
        · intro v' w5 ho hgr hsep
          have IN := I.app ho hgr hsep
          obtain ⟨av', cv', rfl, hcv'⟩ := ho.shape
          clear ho hgr hsep ownL
          gi_wp2_with fail
          go_roundw
          case rel => exact ⟨k + 1, by omega, by go_num, by rw [HF.out]; simpa using IN⟩
          case measure => simp [intOf]; omega
      · have HF : Hid (knd L true (lO.take (k + 1)) = l ++ [x]) := by show _ = _; rw [HK.out]; simp
        gi_wp2_with (gi_at_builtin; refine wpListIn_appI _ rfl _ _ rfl l [x] _ rfl (World.ownsRow.alloc ownL _) ⟨wr.heap.size, 0, none⟩ 1 1 rfl rfl (by simp) ?_ hkl2 ?_)
        · exact news1 wr x
        · intro v' w5 ho hgr hsep
          have IN := I.app ho hgr hsep
          obtain ⟨av', cv', rfl, hcv'⟩ := ho.shape
          clear ho hgr hsep ownL
          gi_wp2_with fail
          go_roundw
          case rel => exact ⟨k + 1, by omega, by go_num, by rw [HF.out]; simpa using IN⟩
          case measure => simp [intOf]; omega
      · have HF : Hid (knd L true (lO.take (k + 1)) = l) := by show _ = _; rw [HK.out]; simp
        clear ownL
        gi_wp2_with fail
        go_roundw
        case rel => exact ⟨k + 1, by omega, by go_num, by rw [HF.out]; exact I⟩
        case measure => simp [intOf]; omega
    · have hkc : ¬ (k : Int) < (lO.length : Int) := by omega
      have IN := I
      rw [List.take_of_length_le (by omega)] at IN
      gi_wp2_with fail
      go_ret2
      exact ⟨_, rfl, by rw [hlO.out]; exact IN.own, fun b hb => by have := IN.bo b hb; have := IN.lt; omega, IN.kp⟩
set_option maxRecDepth 100000 in
set_option maxHeartbeats 1000000 in
theorem rkind_err (leaf : Bool) (w : World) (a : Option Addr) (cap : Nat) (out : Int) (L : List Nd) (hLn : L.length ≤ 2199023255552) (hE : shE L ≠ 0) (hrd : RdN w a L) :
    Calls Try.prog 91 #[.agg #[.int .i64 out, .slice a L.length cap], .bool leaf] w fun e w' => e = .returned (.tuple #[.slice none 0 0, .int .i64 (shE L)]) ∧ Keep w w' := by
  have hS := fun (wx : World) (k : Keep w wx) => rShape_any wx a cap out L hLn (hrd.keep k)
  have hB : (shE L == 0) = false := by simpa using hE
  have hB2 : (shE L != 0) = true := by simpa using hE
  have k0 : Keep w (w.alloc (Obj.cells #[Value.int IntKind.i64 out, Value.slice a L.length cap] 54)) := (Keep.refl w).alloc _
  clear hE
  generalize shE L = E at *
  go_enter Try.func91, Try.ntmps91
  go_wp2_with fail
  refine (hS _ k0).mono ?_
  rintro e w2 ⟨rfl, k2⟩
  go_wp2_with fail
  go_ret2
  exact ⟨rfl, k0.trans k2⟩
theorem rkind_any (leaf : Bool) (w : World) (a : Option Addr) (cap : Nat) (out : Int) (L : List Nd) (hLn : L.length ≤ 2199023255552) (hrd : RdN w a L) :
    Calls Try.prog 91 #[.agg #[.int .i64 out, .slice a L.length cap], .bool leaf] w (LstE w (if leaf then lvs L else inn L) (shE L)) := by
  by_cases hE : shE L = 0
  · refine ((callsIn_wide (n := 3)).1 (rkind_in leaf 3 (by omega) w a cap out L hLn hE hrd)).mono ?_
    rintro e w' ⟨v, rfl, h1, h2, h3⟩
    refine ⟨v, by rw [hE], ?_, h2, h3⟩
    have e1 : knd L leaf (ord (shp L) L.length) = if leaf then lvs L else inn L := by
      unfold knd lvs inn
      rw [if_pos hE, if_pos hE]
      cases leaf <;> simp
    rw [← e1]; exact h1
  · refine (rkind_err leaf w a cap out L hLn hE hrd).mono ?_
    rintro e w' ⟨rfl, h3⟩
    refine ⟨_, rfl, ?_, fun b hb => (by cases hb), h3⟩
    have e1 : (if leaf then lvs L else inn L) = [] := by
      unfold lvs inn
      rw [if_neg hE, if_neg hE]
      cases leaf <;> rfl
    rw [e1]; exact OwnI.nil _
set_option maxRecDepth 100000 in
theorem rLeaves_any (a : Option Addr) (cap : Nat) (out : Int) (L : List Nd) (hLn : L.length ≤ 2199023255552) (w : World) (hrd : RdN w a L) :
    Calls Try.prog 79 #[.agg #[.int .i64 out, .slice a L.length cap]] w (LstE w (lvs L) (shE L)) := by
  have hC := fun (wx : World) (k : Keep w wx) => rkind_any true wx a cap out L hLn (hrd.keep k)
  simp only [if_true, Bool.false_eq_true, if_false] at hC
  have k0 := fun o => (Keep.refl w).alloc o
  go_enter Try.func79, Try.ntmps79
  go_wp2_with fail
  refine (hC _ (k0 _)).mono ?_
  rintro e w1 ⟨v, rfl, h2, h3, h4⟩
  go_wp2_with fail
  go_ret2
  exact LstE.up (k0 _) ⟨v, rfl, h2, h3, h4⟩
end Go.Proofs.Ytaogjiffnebnkaa.Mk
