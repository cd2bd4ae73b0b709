import Derived.Test.YtodegcobkngmlaaGreatDoorProg
import Derived.Test.YtodegcobkngmlaaGreatDoorYT5
import Derived.Test.YtodegcobkngmlaaGreatDoorYU4
import Derived.Test.YtodegcobkngmlaaGreatDoorYU1
import Derived.Test.YtodegcobkngmlaaGreatDoorYT6
import Derived.WalkKit
import Derived.WalkSpells
import Derived.WalkLawsBesides
import Derived.Deep.Draws
import Derived.Deep.QuietTactic
import Derived.BigQuiet
import Derived.Laws.Externs
import Derived.Laws.CopyOwn
import Derived.RangeFuncBox
import Derived.RangeFuncLeaves
import Derived.RangeFuncCalls
import Derived.RangeFuncRecord
import Derived.Below
import Derived.Shelf.Abstract
import Derived.OwnWalkIn
import Derived.TacticsInMore
import Derived.LoopNIn
import Derived.LoopIn
import Derived.Sort.LoopGhostIn
import Derived.Deep.RegionLaw
import Derived.Deep.RegionWith
import Derived.Deep.RegionHeld3
import Derived.Stop.RegionWithIn
import Derived.Test.YtodegcobkngmlaaGreatDoorYV1
import Derived.Test.YtodegcobkngmlaaGreatDoorYR2
import Derived.Test.YtodegcobkngmlaaGreatDoorYW4
import Derived.Test.YtodegcobkngmlaaGreatDoorYX4
set_option linter.unusedVariables false
set_option linter.unusedSimpArgs false
namespace Go.Proofs.YtodegcobkngmlaaGreatDoor
theorem ord_nodup {t : Sh} {n : Nat} (ht : In t n) : (ord t n).Nodup := (go_mem ht _ _ _ (Way.start ht) (by simp)).2
theorem ord_len {t : Sh} {n : Nat} (ht : In t n) : (ord t n).length ≤ n := nodup_len (ord_nodup ht) (ord_lt ht)
end Go.Proofs.YtodegcobkngmlaaGreatDoor
set_option linter.unusedVariables false
set_option linter.unusedSimpArgs false
namespace Go.Proofs.YtodegcobkngmlaaGreatDoor
open Go.RowKit Go.Shelf
attribute [local go_sem] Oper.semAt_some
/-- The leaves from left to right, and the other nodes. -/
def lvs (L : List Nd) : List Nat := if shE L = 0 then (ord (shp L) L.length).filter (fun i => (!decide ((L.getD i nd0).kd = 2 ∨ (L.getD i nd0).kd = 3))) else []
def inn (L : List Nd) : List Nat := if shE L = 0 then (ord (shp L) L.length).filter (fun i => decide ((L.getD i nd0).kd = 2 ∨ (L.getD i nd0).kd = 3)) else []
end Go.Proofs.YtodegcobkngmlaaGreatDoor
set_option linter.unusedVariables false
set_option linter.unusedSimpArgs false
namespace Go.Proofs.YtodegcobkngmlaaGreatDoor
open Go.RowKit
/-- Equal, as the language compares, is so both ways. -/
theorem dat_symm (d e : Ieee.Datum) : (d.order e == some .eq) = (e.order d == some .eq) := by
  rw [Bool.eq_iff_iff]
  cases d <;> cases e <;> simp only [Ieee.Datum.order, beq_iff_eq, Option.some.injEq, reduceCtorEq]
  all_goals first
    | (split <;> simp)
    | (rename_i s m i t n j; rw [Int.min_comm j i, Std.LawfulEqCmp.compare_eq_iff_eq, Std.LawfulEqCmp.compare_eq_iff_eq]; exact eq_comm)
    | (rw [Std.LawfulEqCmp.compare_eq_iff_eq, Std.LawfulEqCmp.compare_eq_iff_eq]; exact eq_comm)
theorem eq_symm (a b : Nat) : (FloatKind.f64.format.order a b == some .eq) = (FloatKind.f64.format.order b a == some .eq) := dat_symm _ _
theorem dat_nan (d e : Ieee.Datum) (h : (d.order d == some .eq) = false) : (e.order d == some .eq) = false := by
  cases d <;> cases e <;> simp_all [Ieee.Datum.order]
theorem eq_nan (a x : Nat) (h : nanB x = true) : (FloatKind.f64.format.order a x == some .eq) = false := by
  unfold nanB at h
  rw [Bool.not_eq_true'] at h
  exact dat_nan _ _ h
end Go.Proofs.YtodegcobkngmlaaGreatDoor
set_option linter.unusedVariables false
set_option linter.unusedSimpArgs false
namespace Go.Proofs.YtodegcobkngmlaaGreatDoor
open Go.RowKit Go.Shelf
attribute [local go_sem] Oper.semAt_some
attribute [local go_sem] run_store_float
/-- What Order holds between two rounds. -/
structure OIt (L : List Nd) (w : World) (a : Option Addr) (cap : Nat) (out0 : Int) (f : Nat) (vo vt : Value) (wr : World) (outl S : List Nat) : Prop where
  ownT : OwnI wr vt S.reverse
  ownO : OwnI wr vo outl
  blT : ∀ b, vt.ownBlock = some b → w.heap.size < b
  blO : ∀ b, vo.ownBlock = some b → w.heap.size < b
  ne : ∀ b, vo.ownBlock = some b → vt.ownBlock ≠ some b
  tb : wr.heap[w.heap.size]? = some (Obj.cells #[Value.int IntKind.i64 out0, Value.slice a L.length cap] 51 (0, 0))
  kp : Keep w wr
  way : Way (shp L) L.length outl S
  str : Str (shp L) L.length outl S
  eq : go (shp L) f outl S = ord (shp L) L.length
  fuel : 3 * (L.length - outl.length) + S.length ≤ f
  top : f ≤ 3 * L.length + 1
/-- What an append leaves as it was. -/
theorem grown_al {A B : World} {o : Obj} {r : Option Nat} (h : (A.alloc o).grownBy B r) : (∀ g, g < A.heap.size → r ≠ some g → B.heap[g]? = A.heap[g]?) ∧ A.heap.size < B.heap.size ∧ B.os = A.os ∧ B.tape = A.tape ∧ B.output = A.output := by
  have hb : Below A.heap.size A (A.alloc o) := (Below.refl _ A).alloc (Nat.le_refl _) o
  have hs := h.size
  rw [World.size_alloc] at hs
  refine ⟨fun g hg hne => ?_, by omega, h.os.trans hb.os, h.tape.trans hb.tape, h.output.trans hb.output⟩
  rw [h.block g (Nat.lt_of_lt_of_le hg hb.size) (fun e => hne e.symm), hb.block g hg]
theorem own_lt {w : World} {v : Value} {l : List Nat} (h : OwnI w v l) {b : Nat} (hb : v.ownBlock = some b) : b < w.heap.size := by
  obtain ⟨cur, hc⟩ := h.block hb
  exact (Array.getElem?_eq_some_iff.1 hc).1
theorem news2 (W : World) (x y : Nat) : ∀ j u, (UI [x, y])[j]? = some u → (W.alloc (Obj.cells #[Value.int .i64 (x : Nat), Value.int .i64 (y : Nat)] 3)).cell? ((⟨W.heap.size, 0, none⟩ : Addr).add j) = some u := by
  intro j u hj
  rw [Go.WideShapes.add_plain, Nat.zero_add, cell_of_row _ _ _ _ 3 (0, 0) (heap_alloc_new W _)]
  match j, hj with
  | 0, hj => simpa [UI] using hj
  | 1, hj => simpa [UI] using hj
  | j + 2, hj => simp [UI] at hj
set_option maxRecDepth 100000 in
set_option maxHeartbeats 4000000 in
theorem rOrder_in (n : Nat) (hn : 3 ≤ n) (w : World) (a : Option Addr) (cap : Nat) (out : Int) (L : List Nd) (hLn : L.length ≤ 2199023255552) (hE : shE L = 0) (hrd : RdN w a L) :
    CallsIn Fence.wide n Tryz.prog 70 #[.agg #[.int .i64 out, .slice a L.length cap]] w fun e w' => ∃ v, e = .returned v ∧ OwnI w' v (ord (shp L) L.length) ∧ (∀ b, v.ownBlock = some b → w.heap.size ≤ b) ∧ Keep w w' := by
  have h1 : 1 ≤ n := by omega
  have hR := shE_rgt hE
  have hT := shE_tr hE
  refine callsIn_of_wp Tryz.func70 rfl trivial ?_ rfl
  simp only [Tryz.ntmps70, List.size_toArray, List.length_cons, List.length_nil, Nat.reduceAdd, Nat.reduceSub, Array.replicate_succ, Array.replicate_zero, List.push_toArray, List.append_toArray, List.nil_append, List.cons_append]
  gi_wp2_with fail
  have I0 : OIt L w a cap out (3 * L.length + 1) (.slice none 0 0) (.slice (some ⟨w.heap.size + 1, 0, none⟩) 1 1) ((w.alloc (Obj.cells #[Value.int IntKind.i64 out, Value.slice a L.length cap] 51)).alloc (Obj.cells #[Value.int IntKind.i64 0] 3)) [] [0] := by
    refine ⟨?_, OwnI.nil _, ?_, fun b hb => (by cases hb), fun b hb => (by cases hb), ?_, ((Keep.refl w).alloc _).alloc _, Way.start hR.wi, Str.start _ _, rfl, by simp, by omega⟩
    · refine ⟨rfl, .inr ⟨w.heap.size + 1, 1, #[Value.int IntKind.i64 0], rfl, by omega, ?_, by simp, by decide, by simp, rfl⟩⟩
      have := heap_alloc_new (w.alloc (Obj.cells #[Value.int IntKind.i64 out, Value.slice a L.length cap] 51)) (Obj.cells #[Value.int IntKind.i64 0] 3)
      rw [World.size_alloc] at this
      exact this
    · intro b hb
      have hb : some (w.heap.size + 1) = some b := hb
      simp only [Option.some.injEq] at hb
      omega
    · exact (Below.heap_alloc _ _ _ (by simp)).trans (heap_alloc_new w _)
  generalize hwE : (w.alloc (Obj.cells #[Value.int IntKind.i64 out, Value.slice a L.length cap] 51)).alloc (Obj.cells #[Value.int IntKind.i64 0] 3) = wE at I0 ⊢
  clear hwE
  gi_loopg [3, 4] (3 * L.length + 1) (fun f vo vt wr => ∃ outl S, OIt L w a cap out f vo vt wr outl S)
  case atStart => exact ⟨[], [0], I0⟩
  case round =>
    obtain ⟨outl, S, I⟩ := hrel
    clear I0
    cases S with
    | nil =>
      obtain ⟨av, cv, hv, hcv⟩ := I.ownT.shape
      rw [List.reverse_nil, List.length_nil] at hv
      subst hv
      have hfin : outl = ord (shp L) L.length := by have := I.eq; rw [go_nil] at this; exact this
      subst hfin
      gi_wp2
      go_ret
      exact ⟨_, rfl, I.ownO, fun b hb => Nat.le_of_lt (I.blO b hb), I.kp⟩
    | cons i S =>
      obtain ⟨gw, capw, hv, hcap, hgw, hcells⟩ := I.ownT.cells (by simp)
      have hrl : (i :: S).reverse.length = S.length + 1 := by simp
      have own0 := I.ownT
      rw [hv, List.reverse_cons] at own0
      have own1 := own0.pop
      rw [List.length_reverse] at own1
      have hci : wr.cell? ⟨gw, S.length, none⟩ = some (.int .i64 (i : Nat)) := by
        rw [hcells S.length (by rw [hrl]; omega), show (i :: S).reverse.getD S.length 0 = i by simp [List.getD]]
      rw [hrl] at hv
      subst hv
      have blT : w.heap.size < gw := I.blT gw rfl
      have neT : _ ≠ some gw := fun e => I.ne gw e rfl
      have iN : i < L.length := I.way.ls i List.mem_cons_self
      have hfu := I.fuel
      have htp := I.top
      simp only [List.length_cons] at hfu
      obtain ⟨f, rfl⟩ : ∃ f, gk = f + 1 := ⟨gk - 1, by omega⟩
      have hgo := I.eq
      have hfr := I.str.fresh
      rw [go, if_neg hfr] at hgo
      have wayN := I.way.new hR.wi hfr
      have strN := I.str.next hT I.way
      have hnd := nodup_len wayN.nd wayN.lo
      have hol : outl.length < L.length := by simp at hnd; omega
      have hiN : (i : Int) < (L.length : Int) := by omega
      have hcp : S.length ≤ capw := by rw [hrl] at hcap; omega
      have h48 : outl.length + [i].length ≤ 17592186044416 := by simp; omega
      have ownO := I.ownO
      obtain ⟨ao, co, hvo, hco⟩ := ownO.shape
      subst hvo
      clear own0 hcells
      gi_wp2_with (gi_at_builtin; refine wpListIn_appI _ rfl _ _ rfl outl [i] _ rfl (World.ownsRow.alloc ownO _) ⟨wr.heap.size, 0, none⟩ 1 1 rfl rfl (by simp) ?_ h48 ?_)
      · exact news1 wr i
      · intro vo' w2 ho hgr hsep
        obtain ⟨k2, s2, o2, t2, u2⟩ := grown_al hgr
        have kw : Keep w w2 := ⟨o2.trans I.kp.os, t2.trans I.kp.tape, u2.trans I.kp.output, by have := I.kp.size; omega, fun g hg => (k2 g (by have := I.kp.size; omega) (fun e => by have := I.blO g e; omega)).trans (I.kp.block g hg)⟩
        have hwlt : w.heap.size < wr.heap.size := (Array.getElem?_eq_some_iff.1 I.tb).1
        have tb2 : w2.heap[w.heap.size]? = _ := (k2 _ hwlt (fun e => by have := I.blO _ e; omega)).trans I.tb
        have own2 : OwnI w2 (.slice (some ⟨gw, 0, none⟩) S.length capw) S.reverse := own1.same (fun b hb => by
          have hb : some gw = some b := hb
          simp only [Option.some.injEq] at hb
          subst hb
          exact k2 gw hgw neT)
        have bo2 : ∀ b, vo'.ownBlock = some b → w.heap.size < b ∧ b ≠ gw := by
          intro b hb
          rcases hsep with e | e
          · rw [e] at hb; exact ⟨I.blO b hb, fun e2 => neT (by rw [hb, e2])⟩
          · rw [e] at hb
            simp only [Option.some.injEq] at hb
            omega
        have tc2 : w2.cell? ⟨w.heap.size, 1, none⟩ = some (.slice a L.length cap) := by rw [cell_of_row _ _ 1 _ 51 (0, 0) tb2]; rfl
        obtain ⟨b, o, ca, cp, rfl, hnd2⟩ := (hrd.keep kw) i iN
        obtain ⟨av', cv', hv', hcv'⟩ := ho.shape
        rw [show (outl ++ [i]).length = outl.length + 1 by simp] at hv'
        subst hv'
        have c0 := hnd2.c0
        have c1 := hnd2.c1
        have c2 := hnd2.c2
        have c3 := hnd2.c3
        have c4 := hnd2.c4
        have c5 := hnd2.c5
        have c6 := hnd2.c6
        have c7 := hnd2.c7
        have hK : (shp L).K i = decide ((L.getD i nd0).kd = 2 ∨ (L.getD i nd0).kd = 3) := rfl
        have hrt := hR.2 i iN
        have gw2 : gw < w2.heap.size := by omega
        clear hgr hsep k2 o2 t2 u2 own1 hci I hnd2
        by_cases hki : (shp L).K i = true
        · rw [if_pos hki] at hgo wayN strN
          obtain ⟨⟨e6, l6, p6⟩, ⟨e7, l7, p7⟩⟩ := hR.kids iN hki
          have q1 : (((L.getD i nd0).kd : Int) == 1) = false := by
            rw [hK, decide_eq_true_eq] at hki
            rw [beq_eq_false_iff_ne]; omega
          have q2 : (((L.getD i nd0).kd : Int) != 1) = true := by
            rw [hK, decide_eq_true_eq] at hki
            rw [bne_iff_ne]; omega
          rw [e6] at c6
          rw [e7] at c7
          generalize (shp L).A i = ai at *
          generalize (shp L).B i = bi at *
          clear hK hki hrt e6 e7
          generalize L.getD i nd0 = N at *
          have h49 : S.reverse.length + [bi, ai].length ≤ 17592186044416 := by simp; omega
          gi_wp2_with (gi_at_builtin; refine wpListIn_appI _ rfl _ _ rfl S.reverse [bi, ai] _ rfl (World.ownsRow.alloc (World.ownsRow.alloc own2 _) _) ⟨w2.heap.size + 1, 0, none⟩ 2 2 rfl rfl (by simp) ?_ h49 ?_)
          · intro j u hj
            have := news2 (w2.alloc (Obj.cells #[Value.int IntKind.u8 N.kd, Value.int IntKind.i64 N.vl, Value.int IntKind.i64 N.ft, Value.float FloatKind.f64 N.th, Value.slice ca N.cs.length cp, Value.int IntKind.u8 N.ms, Value.int IntKind.i64 (ai : Nat), Value.int IntKind.i64 (bi : Nat)] 71)) bi ai j u hj
            rw [World.size_alloc] at this
            exact this
          · intro vt' w4 ho4 hgr4 hsep4
            obtain ⟨k4, s4, o4, t4, u4⟩ := grown_al hgr4
            have kb : Keep w2 (w2.alloc (Obj.cells #[Value.int IntKind.u8 N.kd, Value.int IntKind.i64 N.vl, Value.int IntKind.i64 N.ft, Value.float FloatKind.f64 N.th, Value.slice ca N.cs.length cp, Value.int IntKind.u8 N.ms, Value.int IntKind.i64 (ai : Nat), Value.int IntKind.i64 (bi : Nat)] 71)) := (Keep.refl w2).alloc _
            have kk : ∀ g, g < w2.heap.size → g ≠ gw → w4.heap[g]? = w2.heap[g]? := fun g hg hne => (k4 g (by simp; omega) (fun e => by
              have e : some gw = some g := e
              simp only [Option.some.injEq] at e
              exact hne e.symm)).trans (kb.block g hg)
            rw [World.size_alloc] at s4
            have HI : OIt L w (some ⟨b, o, none⟩) cap out f (.slice av' (outl.length + 1) cv') vt' w4 (outl ++ [i]) (ai :: bi :: S) := by
              refine ⟨?_, ?_, ?_, fun b hb => (bo2 b hb).1, ?_, ?_, ?_, wayN, strN, hgo, by simp; omega, by omega⟩
              · rw [show (ai :: bi :: S).reverse = S.reverse ++ [bi, ai] by simp]; exact ho4
              · exact ho.same (fun b hb => kk b (own_lt ho hb) (bo2 b hb).2)
              · intro b' hb'
                rcases hsep4 with e | e
                · rw [e] at hb'
                  have hb' : some gw = some b' := hb'
                  simp only [Option.some.injEq] at hb'
                  omega
                · rw [e] at hb'
                  simp only [Option.some.injEq] at hb'
                  have := kw.size
                  omega
              · intro b' hb' hb2
                have hlt := own_lt ho hb'
                rcases hsep4 with e | e
                · rw [e] at hb2
                  have hb2 : some gw = some b' := hb2
                  simp only [Option.some.injEq] at hb2
                  exact (bo2 b' hb').2 hb2.symm
                · rw [e] at hb2
                  simp only [Option.some.injEq] at hb2
                  omega
              · exact (kk _ (by omega) (by omega)).trans tb2
              · exact ⟨o4.trans (kb.os.trans kw.os), t4.trans (kb.tape.trans kw.tape), u4.trans (kb.output.trans kw.output), by have := kw.size; omega, fun g hg => (kk g (by have := kw.size; omega) (by omega)).trans (kw.block g hg)⟩
            obtain ⟨at', ct', hvt, hct'⟩ := ho4.shape
            rw [show (S.reverse ++ [bi, ai]).length = S.length + 2 by simp] at hvt
            subst hvt
            clear ho4 hgr4 hsep4 k4 kk kb o4 t4 u4 wayN strN hgo ho own2
            gi_wp2
            gi_roundg f
            case rel => exact ⟨_, _, HI⟩
            case measure => omega
        · have hkf : (shp L).K i = false := by simpa using hki
          rw [if_neg hki] at hgo wayN strN
          have hk1 : (L.getD i nd0).kd = 1 := by
            unfold rightB at hrt
            rw [hK, decide_eq_true_eq] at hki
            split at hrt
            · assumption
            · rw [if_neg (by omega), if_neg (by omega)] at hrt; cases hrt
          have q1 : (((L.getD i nd0).kd : Int) == 1) = true := by rw [beq_iff_eq]; omega
          have q2 : (((L.getD i nd0).kd : Int) != 1) = false := by rw [bne_eq_false_iff_eq]; omega
          have HI : ∀ ob, OIt L w (some ⟨b, o, none⟩) cap out f (.slice av' (outl.length + 1) cv') (.slice (some ⟨gw, 0, none⟩) S.length capw) (w2.alloc ob) (outl ++ [i]) S := by
            intro ob
            have kb : Keep w2 (w2.alloc ob) := (Keep.refl w2).alloc _
            refine ⟨?_, ?_, ?_, fun b hb => (bo2 b hb).1, ?_, ?_, kw.trans kb, wayN, strN, hgo, by simp; omega, by omega⟩
            · exact World.ownsRow.alloc own2 _
            · exact World.ownsRow.alloc ho _
            · intro b' hb'
              have hb' : some gw = some b' := hb'
              simp only [Option.some.injEq] at hb'
              omega
            · intro b' hb' hb2
              have hb2 : some gw = some b' := hb2
              simp only [Option.some.injEq] at hb2
              exact (bo2 b' hb').2 hb2.symm
            · exact (kb.block _ (by omega)).trans tb2
          clear hK hki hkf hk1 hrt hgo wayN strN own2 ho
          generalize L.getD i nd0 = N at *
          gi_wp2
          gi_roundg f
          case rel => exact ⟨_, _, HI _⟩
          case measure => omega
end Go.Proofs.YtodegcobkngmlaaGreatDoor
set_option linter.unusedVariables false
set_option linter.unusedSimpArgs false
namespace Go.Proofs.YtodegcobkngmlaaGreatDoor
open Go.RowKit Go.Shelf
attribute [local go_sem] Oper.semAt_some
attribute [local go_sem] run_store_float
theorem rOrder_any (w : World) (a : Option Addr) (cap : Nat) (out : Int) (L : List Nd) (hLn : L.length ≤ 2199023255552) (hE : shE L = 0) (hrd : RdN w a L) :
    Calls Tryz.prog 70 #[.agg #[.int .i64 out, .slice a L.length cap]] w fun e w' => ∃ v, e = .returned v ∧ OwnI w' v (ord (shp L) L.length) ∧ (∀ b, v.ownBlock = some b → w.heap.size ≤ b) ∧ Keep w w' :=
  (callsIn_wide (n := 3)).1 (rOrder_in 3 (by omega) w a cap out L hLn hE hrd)
/-- The kinds asked for. -/
def knd (L : List Nd) (leaf : Bool) (l : List Nat) : List Nat := l.filter (fun i => (decide ((L.getD i nd0).kd = 2 ∨ (L.getD i nd0).kd = 3)) != leaf)
theorem Rgt.kd1 {L : List Nd} (h : Rgt L) {i : Nat} (hi : i < L.length) : (((L.getD i nd0).kd : Int) == 1) = !decide ((L.getD i nd0).kd = 2 ∨ (L.getD i nd0).kd = 3) := by
  have hrt := h.2 i hi
  unfold rightB at hrt
  by_cases h1 : (L.getD i nd0).kd = 1
  · rw [h1]; rfl
  · have : (L.getD i nd0).kd = 2 ∨ (L.getD i nd0).kd = 3 := by
      rw [if_neg h1] at hrt
      split at hrt
      · exact .inl (by assumption)
      · split at hrt
        · exact .inr (by assumption)
        · cases hrt
    rw [decide_eq_true this]
    show _ = false
    rw [beq_eq_false_iff_ne]; omega
/-- A list that is gathered beside another one. -/
structure KIt (w : World) (o0 : Obj) (gO : Nat) (lO : List Nat) (vO : Value) (vo : Value) (wr : World) (l : List Nat) : Prop where
  ownO : OwnI wr vO lO
  own : OwnI wr vo l
  bO : ∀ b, vO.ownBlock = some b → w.heap.size ≤ b ∧ b < gO
  bo : ∀ b, vo.ownBlock = some b → gO ≤ b
  tb : wr.heap[w.heap.size]? = some o0
  kp : Keep w wr
  lt : w.heap.size < gO
  sz : gO ≤ wr.heap.size
theorem KIt.app {w : World} {o0 : Obj} {gO : Nat} {lO : List Nat} {vO vo v' : Value} {wr B : World} {l : List Nat} {x : Nat} {o : Obj} (I : KIt w o0 gO lO vO vo wr l) (ho : OwnI B v' (l ++ [x])) (hgr : (wr.alloc o).grownBy B vo.ownBlock) (hsep : v'.ownBlock = vo.ownBlock ∨ v'.ownBlock = some (wr.heap.size + 1)) : KIt w o0 gO lO vO v' B (l ++ [x]) := by
  obtain ⟨k2, s2, o2, t2, u2⟩ := grown_al hgr
  have h1 := I.lt
  have h2 := I.sz
  have kk : ∀ g, g < gO → B.heap[g]? = wr.heap[g]? := fun g hg => k2 g (by omega) (fun e => by have := I.bo g e; omega)
  refine ⟨I.ownO.same (fun b hb => kk b (I.bO b hb).2), ho, I.bO, ?_, (kk _ h1).trans I.tb, ?_, h1, by omega⟩
  · intro b hb
    rcases hsep with e | e
    · rw [e] at hb; exact I.bo b hb
    · rw [e] at hb
      simp only [Option.some.injEq] at hb
      omega
  · exact ⟨o2.trans I.kp.os, t2.trans I.kp.tape, u2.trans I.kp.output, by have := I.kp.size; omega, fun g hg => (kk g (by omega)).trans (I.kp.block g hg)⟩
set_option maxRecDepth 100000 in
set_option maxHeartbeats 4000000 in
theorem rkind_in (leaf : Bool) (n : Nat) (hn : 3 ≤ n) (w : World) (a : Option Addr) (cap : Nat) (out : Int) (L : List Nd) (hLn : L.length ≤ 2199023255552) (hE : shE L = 0) (hrd : RdN w a L) :
    CallsIn Fence.wide n Tryz.prog 46 #[.agg #[.int .i64 out, .slice a L.length cap], .bool leaf] w fun e w' => ∃ v, e = .returned (.tuple #[v, .int .i64 0]) ∧ OwnI w' v (knd L leaf (ord (shp L) L.length)) ∧ (∀ b, v.ownBlock = some b → w.heap.size ≤ b) ∧ Keep w w' := by
  have h1 : 1 ≤ n := by omega
  have hR := shE_rgt hE
  have hT := shE_tr hE
  have hS := fun (wx : World) (k : Keep w wx) => rShape_any wx a cap out L hLn (hrd.keep k)
  have hO := fun (wx : World) (k : Keep w wx) => rOrder_any wx a cap out L hLn hE (hrd.keep k)
  rw [hE] at hS
  have k0 : Keep w (w.alloc (Obj.cells #[Value.int IntKind.i64 out, Value.slice a L.length cap] 51)) := (Keep.refl w).alloc _
  have tb : (w.alloc (Obj.cells #[Value.int IntKind.i64 out, Value.slice a L.length cap] 51)).heap[w.heap.size]? = some (Obj.cells #[Value.int IntKind.i64 out, Value.slice a L.length cap] 51 (0, 0)) := heap_alloc_new w _
  refine callsIn_of_wp Tryz.func46 rfl trivial ?_ rfl
  simp only [Tryz.ntmps46, List.size_toArray, List.length_cons, List.length_nil, Nat.reduceAdd, Nat.reduceSub, Array.replicate_succ, Array.replicate_zero, List.push_toArray, List.append_toArray, List.nil_append, List.cons_append]
  gi_wp2_with fail
  generalize w.alloc _ = w1 at k0 tb ⊢
  refine ⟨trivial, ?_⟩
  refine (callsIn_wide.2 (hS _ k0)).mono ?_
  rintro e w2 ⟨rfl, k2⟩
  have k02 := k0.trans k2
  have hz1 : w.heap.size < w1.heap.size := (Array.getElem?_eq_some_iff.1 tb).1
  have tb2 := (k2.block _ hz1).trans tb
  have c0 : w2.cell? ⟨w.heap.size, 0, none⟩ = some (.int .i64 out) := by rw [cell_of_row _ _ 0 _ 51 (0, 0) tb2]; rfl
  have c1 : w2.cell? ⟨w.heap.size, 1, none⟩ = some (.slice a L.length cap) := by rw [cell_of_row _ _ 1 _ 51 (0, 0) tb2]; rfl
  gi_wp2_with fail
  refine ⟨trivial, ?_⟩
  refine (callsIn_wide.2 (hO _ k02)).mono ?_
  rintro e w3 ⟨vO, rfl, ownO, bO, k3⟩
  obtain ⟨aO, cO, rfl, hcO⟩ := ownO.shape
  have hz3 : w.heap.size < w3.heap.size := by have := k2.le; have := k3.le; omega
  have I0 : KIt w (Obj.cells #[Value.int IntKind.i64 out, Value.slice a L.length cap] 51 (0, 0)) w3.heap.size (ord (shp L) L.length) (.slice aO (ord (shp L) L.length).length cO) (.slice none 0 0) w3 (knd L leaf []) :=
    ⟨ownO, OwnI.nil _, fun b hb => ⟨Nat.le_trans k02.le (bO b hb), own_lt ownO hb⟩, fun b hb => (by cases hb), (k3.block _ (by have := k2.le; omega)).trans tb2, k02.trans k3, hz3, Nat.le_refl _⟩
  have hlo := ord_len hR.wi
  have hlt := ord_lt hR.wi
  generalize w3.heap.size = gO at I0
  generalize hlO : ord (shp L) L.length = lO at *
  replace hlO : Hid _ := hlO
  clear hS hO k0 k02 k2 k3 tb tb2 c0 c1 ownO bO hz1 hz3
  gi_wp2_with fail
  gi_loopw [8, 22] (fun vo iv wr => ∃ k : Nat, k ≤ lO.length ∧ iv = .int .i64 k ∧ KIt w (Obj.cells #[Value.int IntKind.i64 out, Value.slice a L.length cap] 51 (0, 0)) gO lO (.slice aO lO.length cO) vo wr (knd L leaf (lO.take k))) (fun _ iv _ => lO.length - (intOf iv).toNat)
  case atStart => exact ⟨0, by omega, rfl, I0⟩
  case round =>
    obtain ⟨k, hk, rfl, I⟩ := hrel
    clear I0
    by_cases hkl : k < lO.length
    · have hkc : (k : Int) < (lO.length : Int) := by omega
      obtain ⟨g, c', hv, -, -, hcells⟩ := I.ownO.cells (by omega)
      simp only [Value.slice.injEq] at hv
      obtain ⟨rfl, -, -⟩ := hv
      have hci := hcells k hkl
      have hxN : lO.getD k 0 < L.length := hlt _ (by simp [List.getD, hkl])
      have htk : lO.take (k + 1) = lO.take k ++ [lO.getD k 0] := by rw [List.take_succ_eq_append_getElem hkl]; simp [List.getD, hkl]
      have HK : Hid (knd L leaf (lO.take (k + 1)) = knd L leaf (lO.take k) ++ (if (decide ((L.getD (lO.getD k 0) nd0).kd = 2 ∨ (L.getD (lO.getD k 0) nd0).kd = 3)) != leaf then [lO.getD k 0] else [])) := by
        show _ = _
        rw [htk]; unfold knd
        rw [List.filter_append, List.filter_cons]
        rfl
      have hkl2 : (knd L leaf (lO.take k)).length + [lO.getD k 0].length ≤ 17592186044416 := by
        have := List.length_filter_le (fun i => (decide ((L.getD i nd0).kd = 2 ∨ (L.getD i nd0).kd = 3)) != leaf) (lO.take k)
        unfold knd
        simp at this ⊢
        omega
      generalize lO.getD k 0 = x at *
      have hxc : (x : Int) < (L.length : Int) := by omega
      obtain ⟨b, o, ca, cp, rfl, hnd⟩ := (hrd.keep I.kp) x hxN
      have c0 := hnd.c0
      have hk1 := hR.kd1 hxN
      have t1 : wr.cell? ⟨w.heap.size, 1, none⟩ = some (.slice (some ⟨b, o, none⟩) L.length cap) := by rw [cell_of_row _ _ 1 _ 51 (0, 0) I.tb]; rfl
      generalize decide ((L.getD x nd0).kd = 2 ∨ (L.getD x nd0).kd = 3) = pv at hk1 HK
      generalize (L.getD x nd0).kd = kd at hk1 c0
      obtain ⟨av, cv, hvv, hcv⟩ := I.own.shape
      have ownL := I.own
      subst hvv
      generalize hl : knd L leaf (lO.take k) = l at *
      clear hcells htk hnd hl
      cases leaf <;> cases pv
      · have HF : Hid (knd L false (lO.take (k + 1)) = l) := by show _ = _; rw [HK.out]; simp
        clear ownL
        gi_wp2_with fail
        go_roundw
        case rel => exact ⟨k + 1, by omega, by go_num, by rw [HF.out]; exact I⟩
        case measure => simp [intOf]; omega
      · have HF : Hid (knd L false (lO.take (k + 1)) = l ++ [x]) := by show _ = _; rw [HK.out]; simp
        gi_wp2_with (gi_at_builtin; refine wpListIn_appI _ rfl _ _ rfl l [x] _ rfl (World.ownsRow.alloc ownL _) ⟨wr.heap.size, 0, none⟩ 1 1 rfl rfl (by simp) ?_ hkl2 ?_)
        · exact news1 wr x
        · intro v' w5 ho hgr hsep
          have IN := I.app ho hgr hsep
          obtain ⟨av', cv', rfl, hcv'⟩ := ho.shape
          clear ho hgr hsep ownL
          gi_wp2_with fail
          go_roundw
          case rel => exact ⟨k + 1, by omega, by go_num, by rw [HF.out]; simpa using IN⟩
          case measure => simp [intOf]; omega
      · have HF : Hid (knd L true (lO.take (k + 1)) = l ++ [x]) := by show _ = _; rw [HK.out]; simp
        gi_wp2_with (gi_at_builtin; refine wpListIn_appI _ rfl _ _ rfl l [x] _ rfl (World.ownsRow.alloc ownL _) ⟨wr.heap.size, 0, none⟩ 1 1 rfl rfl (by simp) ?_ hkl2 ?_)
        · exact news1 wr x
        · intro v' w5 ho hgr hsep
          have IN := I.app ho hgr hsep
          obtain ⟨av', cv', rfl, hcv'⟩ := ho.shape
          clear ho hgr hsep ownL
          gi_wp2_with fail
          go_roundw
          case rel => exact ⟨k + 1, by omega, by go_num, by rw [HF.out]; simpa using IN⟩
          case measure => simp [intOf]; omega
      · have HF : Hid (knd L true (lO.take (k + 1)) = l) := by show _ = _; rw [HK.out]; simp
        clear ownL
        gi_wp2_with fail
        go_roundw
        case rel => exact ⟨k + 1, by omega, by go_num, by rw [HF.out]; exact I⟩
        case measure => simp [intOf]; omega
    · have hkc : ¬ (k : Int) < (lO.length : Int) := by omega
      have IN := I
      rw [List.take_of_length_le (by omega)] at IN
      gi_wp2_with fail
      go_ret2
      exact ⟨_, rfl, by rw [hlO.out]; exact IN.own, fun b hb => by have := IN.bo b hb; have := IN.lt; omega, IN.kp⟩
set_option maxRecDepth 100000 in
set_option maxHeartbeats 1000000 in
theorem rkind_err (leaf : Bool) (w : World) (a : Option Addr) (cap : Nat) (out : Int) (L : List Nd) (hLn : L.length ≤ 2199023255552) (hE : shE L ≠ 0) (hrd : RdN w a L) :
    Calls Tryz.prog 46 #[.agg #[.int .i64 out, .slice a L.length cap], .bool leaf] w fun e w' => e = .returned (.tuple #[.slice none 0 0, .int .i64 (shE L)]) ∧ Keep w w' := by
  have hS := fun (wx : World) (k : Keep w wx) => rShape_any wx a cap out L hLn (hrd.keep k)
  have hB : (shE L == 0) = false := by simpa using hE
  have hB2 : (shE L != 0) = true := by simpa using hE
  have k0 : Keep w (w.alloc (Obj.cells #[Value.int IntKind.i64 out, Value.slice a L.length cap] 51)) := (Keep.refl w).alloc _
  clear hE
  generalize shE L = E at *
  go_enter Tryz.func46, Tryz.ntmps46
  go_wp2_with fail
  refine (hS _ k0).mono ?_
  rintro e w2 ⟨rfl, k2⟩
  go_wp2_with fail
  go_ret2
  exact ⟨rfl, k0.trans k2⟩
theorem rkind_any (leaf : Bool) (w : World) (a : Option Addr) (cap : Nat) (out : Int) (L : List Nd) (hLn : L.length ≤ 2199023255552) (hrd : RdN w a L) :
    Calls Tryz.prog 46 #[.agg #[.int .i64 out, .slice a L.length cap], .bool leaf] w (LstE w (if leaf then lvs L else inn L) (shE L)) := by
  by_cases hE : shE L = 0
  · refine ((callsIn_wide (n := 3)).1 (rkind_in leaf 3 (by omega) w a cap out L hLn hE hrd)).mono ?_
    rintro e w' ⟨v, rfl, h1, h2, h3⟩
    refine ⟨v, by rw [hE], ?_, h2, h3⟩
    have e1 : knd L leaf (ord (shp L) L.length) = if leaf then lvs L else inn L := by
      unfold knd lvs inn
      rw [if_pos hE, if_pos hE]
      cases leaf <;> simp
    rw [← e1]; exact h1
  · refine (rkind_err leaf w a cap out L hLn hE hrd).mono ?_
    rintro e w' ⟨rfl, h3⟩
    refine ⟨_, rfl, ?_, fun b hb => (by cases hb), h3⟩
    have e1 : (if leaf then lvs L else inn L) = [] := by
      unfold lvs inn
      rw [if_neg hE, if_neg hE]
      cases leaf <;> rfl
    rw [e1]; exact OwnI.nil _
set_option maxRecDepth 100000 in
theorem rLeaves_any (a : Option Addr) (cap : Nat) (out : Int) (L : List Nd) (hLn : L.length ≤ 2199023255552) (w : World) (hrd : RdN w a L) :
    Calls Tryz.prog 31 #[.agg #[.int .i64 out, .slice a L.length cap]] w (LstE w (lvs L) (shE L)) := by
  have hC := fun (wx : World) (k : Keep w wx) => rkind_any true wx a cap out L hLn (hrd.keep k)
  simp only [if_true, Bool.false_eq_true, if_false] at hC
  have k0 := fun o => (Keep.refl w).alloc o
  go_enter Tryz.func31, Tryz.ntmps31
  go_wp2_with fail
  refine (hC _ (k0 _)).mono ?_
  rintro e w1 ⟨v, rfl, h2, h3, h4⟩
  go_wp2_with fail
  go_ret2
  exact LstE.up (k0 _) ⟨v, rfl, h2, h3, h4⟩
end Go.Proofs.YtodegcobkngmlaaGreatDoor
set_option linter.unusedVariables false
set_option linter.unusedSimpArgs false
namespace Go.Proofs.YtodegcobkngmlaaGreatDoor
open Go.RowKit
theorem gsS_nan (n : Nd) (x : Nat) (hx : nanB x = true) (h : n.kd = 2 ∨ n.kd = 3) : gsS n x = n.ms := by
  unfold gsS
  by_cases h2 : n.kd = 2
  · rw [if_pos h2]; unfold sdS; rw [hx]; rfl
  · rw [if_neg h2, if_pos (by omega)]
    unfold amS
    rw [inB_no fun i hi => eq_nan _ _ hx]
    unfold sdS; rw [hx]; rfl
theorem gsS_number (n : Nd) (x : Nat) (hx : nanB x = false) (h : n.kd = 2) : gsS n x = if leB x n.th then 1 else 2 := by
  unfold gsS sdS; rw [if_pos h, hx]; rfl
theorem gsS_cats (n : Nd) (x : Nat) (hx : nanB x = false) (h : n.kd = 3) : gsS n x = if inB n.cs x then 1 else 2 := by
  unfold gsS amS sdS; rw [if_neg (by omega), if_pos h, hx]; rfl
theorem gsS_none (n : Nd) (x : Nat) (h2 : n.kd ≠ 2) (h3 : n.kd ≠ 3) : gsS n x = 0 := by
  unfold gsS; rw [if_neg h2, if_neg h3]
set_option maxRecDepth 100000 in
set_option maxHeartbeats 1600000 in
theorem rGoes_none (n : Nd) (ca : Option Addr) (cap x : Nat) (w : World) (h2 : n.kd ≠ 2) (h3 : n.kd ≠ 3) :
    Calls Tryz.prog 45 #[n.v ca cap, .float .f64 x] w fun e w' => e = .returned (.int .u8 0) ∧ Keep w w' := by
  have k0 : Keep w (w.alloc (Obj.cells #[Value.int IntKind.u8 n.kd, Value.int IntKind.i64 n.vl, Value.int IntKind.i64 n.ft, Value.float FloatKind.f64 n.th, Value.slice ca n.cs.length cap, Value.int IntKind.u8 n.ms, Value.int IntKind.i64 n.lf, Value.int IntKind.i64 n.rt] 71)) := (Keep.refl w).alloc _
  have e2 : ((n.kd : Int) == 2) = false := by simp; omega
  have f2 : ((n.kd : Int) != 2) = true := by simp; omega
  have e3 : ((n.kd : Int) == 3) = false := by simp; omega
  have f3 : ((n.kd : Int) != 3) = true := by simp; omega
  clear h2 h3
  unfold Nd.v
  go_enter Tryz.func45, Tryz.ntmps45
  go_wp2_with fail
  go_ret
  exact ⟨rfl, k0⟩
set_option maxRecDepth 100000 in
set_option maxHeartbeats 1600000 in
theorem rGoes_nan (n : Nd) (ca : Option Addr) (cap x : Nat) (w : World) (hx : nanB x = true) (h : n.kd = 2 ∨ n.kd = 3) :
    Calls Tryz.prog 45 #[n.v ca cap, .float .f64 x] w fun e w' => e = .returned (.int .u8 (n.ms : Nat)) ∧ Keep w w' := by
  have k0 : Keep w (w.alloc (Obj.cells #[Value.int IntKind.u8 n.kd, Value.int IntKind.i64 n.vl, Value.int IntKind.i64 n.ft, Value.float FloatKind.f64 n.th, Value.slice ca n.cs.length cap, Value.int IntKind.u8 n.ms, Value.int IntKind.i64 n.lf, Value.int IntKind.i64 n.rt] 71)) := (Keep.refl w).alloc _
  have N := fun wx => rnan_any x wx
  rw [hx] at N
  clear hx
  unfold Nd.v
  rcases h with h | h
  · have e2 : ((n.kd : Int) == 2) = true := by simp; omega
    have f2 : ((n.kd : Int) != 2) = false := by simp; omega
    clear h
    go_enter Tryz.func45, Tryz.ntmps45
    go_wp2_with fail
    refine (N _).mono ?_
    rintro e w1 ⟨rfl, rfl⟩
    go_wp2_with fail
    go_ret
    exact ⟨rfl, k0⟩
  · have e2 : ((n.kd : Int) == 2) = false := by simp; omega
    have f2 : ((n.kd : Int) != 2) = true := by simp; omega
    have e3 : ((n.kd : Int) == 3) = true := by simp; omega
    have f3 : ((n.kd : Int) != 3) = false := by simp; omega
    clear h
    go_enter Tryz.func45, Tryz.ntmps45
    go_wp2_with fail
    refine (N _).mono ?_
    rintro e w1 ⟨rfl, rfl⟩
    go_wp2_with fail
    go_ret
    exact ⟨rfl, k0⟩
set_option maxRecDepth 100000 in
set_option maxHeartbeats 1600000 in
theorem rGoes_number (n : Nd) (ca : Option Addr) (cap x : Nat) (w : World) (hx : nanB x = false) (h : n.kd = 2) :
    Calls Tryz.prog 45 #[n.v ca cap, .float .f64 x] w fun e w' => e = .returned (.int .u8 ((if leB x n.th then 1 else 2 : Nat) : Nat)) ∧ Keep w w' := by
  have k0 : Keep w (w.alloc (Obj.cells #[Value.int IntKind.u8 n.kd, Value.int IntKind.i64 n.vl, Value.int IntKind.i64 n.ft, Value.float FloatKind.f64 n.th, Value.slice ca n.cs.length cap, Value.int IntKind.u8 n.ms, Value.int IntKind.i64 n.lf, Value.int IntKind.i64 n.rt] 71)) := (Keep.refl w).alloc _
  have N := fun wx => rnan_any x wx
  rw [hx] at N
  have e2 : ((n.kd : Int) == 2) = true := by simp; omega
  have f2 : ((n.kd : Int) != 2) = false := by simp; omega
  clear hx h
  have HL : Hid (leB x n.th = (FloatKind.f64.format.order x n.th == some .lt || FloatKind.f64.format.order x n.th == some .eq)) := rfl
  obtain ⟨R, hR⟩ : ∃ R : Nat, (if leB x n.th then 1 else 2 : Nat) = R := ⟨_, rfl⟩
  have HR : Hid ((if leB x n.th then 1 else 2 : Nat) = R) := hR
  rw [hR]
  clear hR
  unfold Nd.v
  cases h1 : (FloatKind.f64.format.order x n.th == some .lt) <;> cases h2 : (FloatKind.f64.format.order x n.th == some .eq)
  all_goals
    have HS := HR.out
    rw [HL.out, h1, h2] at HS
    simp at HS
    have HV : Hid (R = _) := HS.symm
    clear HL HR HS
    go_enter Tryz.func45, Tryz.ntmps45
    go_wp2_with fail
    refine (N _).mono ?_
    rintro e w1 ⟨rfl, rfl⟩
    go_wp2_with fail
    go_ret
    exact ⟨ret_int (by rw [HV.out]; rfl), k0⟩
set_option maxRecDepth 100000 in
set_option maxHeartbeats 1600000 in
theorem rGoes_cats (n : Nd) (ca : Option Addr) (cap x : Nat) (w : World) (hx : nanB x = false) (h : n.kd = 3) (hr : RdI w ca n.cs) (hl : n.cs.length ≤ 17592186044416) (hc : n.cs.length ≤ cap) :
    Calls Tryz.prog 45 #[n.v ca cap, .float .f64 x] w fun e w' => e = .returned (.int .u8 ((if inB n.cs x then 1 else 2 : Nat) : Nat)) ∧ Keep w w' := by
  have k0 : Keep w (w.alloc (Obj.cells #[Value.int IntKind.u8 n.kd, Value.int IntKind.i64 n.vl, Value.int IntKind.i64 n.ft, Value.float FloatKind.f64 n.th, Value.slice ca n.cs.length cap, Value.int IntKind.u8 n.ms, Value.int IntKind.i64 n.lf, Value.int IntKind.i64 n.rt] 71)) := (Keep.refl w).alloc _
  have N := fun wx => rnan_any x wx
  rw [hx] at N
  have e2 : ((n.kd : Int) == 2) = false := by simp; omega
  have f2 : ((n.kd : Int) != 2) = true := by simp; omega
  have e3 : ((n.kd : Int) == 3) = true := by simp; omega
  have f3 : ((n.kd : Int) != 3) = false := by simp; omega
  clear hx h
  obtain ⟨R, hR⟩ : ∃ R : Nat, (if inB n.cs x then 1 else 2 : Nat) = R := ⟨_, rfl⟩
  have HR : Hid ((if inB n.cs x then 1 else 2 : Nat) = R) := hR
  rw [hR]
  clear hR
  have hr' := hr.keep k0
  unfold Nd.v
  go_enter Tryz.func45, Tryz.ntmps45
  go_wp2_with fail
  refine (N _).mono ?_
  rintro e w1 ⟨rfl, rfl⟩
  go_wp2_with fail
  go_loop [29] (fun i => ∃ k : Nat, k ≤ n.cs.length ∧ i = .int .i64 k ∧ Hid (∀ i (hi : i < n.cs.length), i < k → (FloatKind.f64.format.order (floatOfInt FloatKind.f64 n.cs[i]) x == some .eq) = false)) (fun i => n.cs.length - (intOf i).toNat)
  case atStart => exact ⟨0, by omega, rfl, by intro i hi h; omega⟩
  case round =>
    obtain ⟨k, hk, rfl, hinv⟩ := hrel
    by_cases hkl : k < n.cs.length
    · obtain ⟨b, o, rfl, hc⟩ := hr' k hkl
      have hsy := eq_symm (floatOfInt FloatKind.f64 n.cs[k]) x
      cases he : (FloatKind.f64.format.order x (floatOfInt FloatKind.f64 n.cs[k]) == some .eq)
      · rw [he] at hsy
        have hn : Hid (∀ i (hi : i < n.cs.length), i < k + 1 → (FloatKind.f64.format.order (floatOfInt FloatKind.f64 n.cs[i]) x == some .eq) = false) := by
          intro i hi h
          rcases Nat.lt_or_ge i k with h1 | h1
          · exact hinv.out i hi h1
          · obtain rfl : i = k := by omega
            exact hsy
        clear hsy
        go_wp2_with fail
        go_round
        case rel => exact ⟨k + 1, by omega, by go_num, hn⟩
        case measure => simp [intOf]; omega
      · rw [he] at hsy
        have HV : Hid (R = 1) := by show _ = _; rw [← HR.out, inB_yes hkl hsy]; rfl
        clear hsy HR
        go_wp2_with fail
        go_ret
        exact ⟨ret_int (by rw [HV.out]; rfl), k0⟩
    · have HV : Hid (R = 2) := by show _ = _; rw [← HR.out, inB_no fun i hi => hinv.out i hi (by omega)]; rfl
      clear HR
      go_wp2_with fail
      go_ret
      exact ⟨ret_int (by rw [HV.out]; rfl), k0⟩
/-- The reference's Goes is the program's. -/
theorem rGoes_any (n : Nd) (ca : Option Addr) (cap x : Nat) (w : World) (hr : RdI w ca n.cs) (hl : n.cs.length ≤ 17592186044416) (hc : n.cs.length ≤ cap) :
    Calls Tryz.prog 45 #[n.v ca cap, .float .f64 x] w fun e w' => e = .returned (.int .u8 (gsS n x : Nat)) ∧ Keep w w' := by
  by_cases h2 : n.kd = 2
  · cases hx : nanB x
    · rw [gsS_number n x hx h2]; exact rGoes_number n ca cap x w hx h2
    · rw [gsS_nan n x hx (.inl h2)]; exact rGoes_nan n ca cap x w hx (.inl h2)
  · by_cases h3 : n.kd = 3
    · cases hx : nanB x
      · rw [gsS_cats n x hx h3]; exact rGoes_cats n ca cap x w hx h3 hr hl hc
      · rw [gsS_nan n x hx (.inr h3)]; exact rGoes_nan n ca cap x w hx (.inr h3)
    · rw [gsS_none n x h2 h3]; exact rGoes_none n ca cap x w h2 h3
end Go.Proofs.YtodegcobkngmlaaGreatDoor
set_option linter.unusedVariables false
set_option linter.unusedSimpArgs false
namespace Go.Proofs.YtodegcobkngmlaaGreatDoor
open Go.RowKit Go.Shelf
attribute [local go_sem] run_store_float
set_option maxRecDepth 100000 in
set_option maxHeartbeats 2000000 in
theorem rFits_any (w : World) (a : Option Addr) (cap m : Nat) (out : Int) (L : List Nd) (hLn : L.length ≤ 2199023255552) (hR : Rgt L) (hrd : RdN w a L) :
    Calls Tryz.prog 44 #[.agg #[.int .i64 out, .slice a L.length cap], .int .i64 (m : Nat)] w fun e w' => e = .returned (.bool (!lackB L m)) ∧ Keep w w' := by
  have k0 : Keep w (w.alloc (Obj.cells #[Value.int IntKind.i64 out, Value.slice a L.length cap] 51)) := (Keep.refl w).alloc _
  go_enter Tryz.func44, Tryz.ntmps44
  go_wp2_with fail
  generalize w.alloc _ = w1 at k0 ⊢
  go_loopw [10] (fun iv wr => ∃ k : Nat, k ≤ L.length ∧ iv = .int .i64 k ∧ Keep w wr ∧ Hid (∀ j, j < k → ¬ (((L.getD j nd0).kd = 2 ∨ (L.getD j nd0).kd = 3) ∧ (m : Int) ≤ (L.getD j nd0).ft))) (fun iv _ => L.length - (intOf iv).toNat)
  case atStart => exact ⟨0, by omega, rfl, k0, by intro j hj; omega⟩
  case round =>
    obtain ⟨k, hk, rfl, kw, hinv⟩ := hrel
    clear k0
    by_cases hkl : k < L.length
    · have hkc : (k : Int) < (L.length : Int) := by omega
      obtain ⟨b, o, ca, cp, rfl, hnd⟩ := (hrd.keep kw) k hkl
      have c0 := hnd.c0
      have c1 := hnd.c1
      have c2 := hnd.c2
      have c3 := hnd.c3
      have c4 := hnd.c4
      have c5 := hnd.c5
      have c6 := hnd.c6
      have c7 := hnd.c7
      have hk1 := hR.kd1 hkl
      have hk2 : (((L.getD k nd0).kd : Int) != 1) = decide ((L.getD k nd0).kd = 2 ∨ (L.getD k nd0).kd = 3) := by
        rw [bne, hk1, Bool.not_not]
      have kb := fun ob => (kw.alloc ob)
      obtain ⟨pv, hpv⟩ : ∃ pv, decide ((L.getD k nd0).kd = 2 ∨ (L.getD k nd0).kd = 3) = pv := ⟨_, rfl⟩
      have HP : Hid (decide ((L.getD k nd0).kd = 2 ∨ (L.getD k nd0).kd = 3) = pv) := hpv
      rw [hpv] at hk1 hk2
      clear hpv hnd
      obtain ⟨N, hN⟩ : ∃ N, L.getD k nd0 = N := ⟨_, rfl⟩
      have HN : Hid (L.getD k nd0 = N) := hN
      rw [hN] at hk1 hk2 c0 c1 c2 c3 c4 c5 c6 c7
      clear hN
      have HS : (¬ (pv = true ∧ (m : Int) ≤ N.ft)) → Hid (∀ j, j < k + 1 → ¬ (((L.getD j nd0).kd = 2 ∨ (L.getD j nd0).kd = 3) ∧ (m : Int) ≤ (L.getD j nd0).ft)) := by
        intro hno j hj hh
        by_cases e : j = k
        · subst e
          rw [HN.out] at hh
          exact hno ⟨by rw [← HP.out, HN.out]; exact decide_eq_true hh.1, hh.2⟩
        · exact hinv.out j (by omega) hh
      cases pv
      · have HT := HS (by simp)
        go_wp2_with fail
        go_roundw
        case rel => exact ⟨k + 1, by omega, by go_num, kb _, HT⟩
        case measure => simp [intOf]; omega
      · by_cases hf : (m : Int) ≤ N.ft
        · have HY : Hid (lackB L m = true) := lackB_yes hkl ⟨of_decide_eq_true HP.out, by rw [HN.out]; exact hf⟩
          go_wp2_with fail
          go_ret
          exact ⟨ret_bool (by rw [HY.out]; rfl), kb _⟩
        · have HT := HS (fun h => hf h.2)
          go_wp2_with fail
          go_roundw
          case rel => exact ⟨k + 1, by omega, by go_num, kb _, HT⟩
          case measure => simp [intOf]; omega
    · have hkc : ¬ (k : Int) < (L.length : Int) := by omega
      have HN : Hid (lackB L m = false) := lackB_no (fun j hj => hinv.out j (by omega))
      go_wp2_with fail
      go_ret
      exact ⟨ret_bool (by rw [HN.out]; rfl), kw⟩
end Go.Proofs.YtodegcobkngmlaaGreatDoor
