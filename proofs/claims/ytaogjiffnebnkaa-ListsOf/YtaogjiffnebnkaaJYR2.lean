import Derived.Test.YtaogjiffnebnkaaP4
import Derived.Test.YtaogjiffnebnkaaProg
import Derived.Test.YtaogjiffnebnkaaJYR1
import Derived.Test.YtaogjiffnebnkaaKYT5
import Derived.Test.YtaogjiffnebnkaaKYT6
import Derived.Test.YtaogjiffnebnkaaKYU1
import Derived.Test.YtaogjiffnebnkaaKYMM
import Derived.Test.YtaogjiffnebnkaaKM1
import Derived.Test.YtaogjiffnebnkaaKM2
import Derived.Test.YtaogjiffnebnkaaKM3
import Derived.WalkKit
import Derived.WalkSpells
import Derived.WalkLawsBesides
import Derived.Deep.Draws
import Derived.Deep.QuietTactic
import Derived.BigQuiet
import Derived.Laws.Externs
import Derived.Laws.CopyOwn
import Derived.RangeFuncBox
import Derived.RangeFuncLeaves
import Derived.RangeFuncCalls
import Derived.RangeFuncRecord
import Derived.Below
import Derived.Shelf.Abstract
import Derived.OwnWalkIn
import Derived.TacticsInMore
import Derived.LoopNIn
import Derived.LoopIn
import Derived.Sort.LoopGhostIn
import Derived.Deep.RegionLaw
import Derived.Deep.RegionWith
import Derived.Deep.RegionHeld3
import Derived.Stop.RegionWithIn
set_option linter.unusedVariables false
set_option linter.unusedSimpArgs false
namespace Go.Proofs.Ytaogjiffnebnkaa.Mk
open Go.RowKit Go.Shelf
attribute [local go_sem] Oper.semAt_some
attribute [local go_sem] run_store_float
set_option maxRecDepth 100000 in
theorem rShape_nil (w : World) (a : Option Addr) (cap : Nat) (out : Int) :
    Calls Try.prog 109 #[.agg #[.int .i64 out, .slice a 0 cap]] w fun e w' => e = .returned (.tuple #[.int .i64 70, .int .i64 0]) ∧ Keep w w' := by
  go_enter Try.func109, Try.ntmps109
  go_wp2_with fail
  go_ret2
  exact ⟨rfl, (Keep.refl _).alloc _⟩
theorem rShape_any (w : World) (a : Option Addr) (cap : Nat) (out : Int) (L : List Nd) (hLn : L.length ≤ 2199023255552) (hrd : RdN w a L) :
    Calls Try.prog 109 #[.agg #[.int .i64 out, .slice a L.length cap]] w fun e w' => e = .returned (.tuple #[.int .i64 (shE L), .int .i64 (shI L : Nat)]) ∧ Keep w w' := by
  by_cases h : L.length = 0
  · have e1 : shE L = 70 := by unfold shE; rw [if_pos h]
    have e2 : shI L = 0 := by unfold shI; rw [if_pos h]
    rw [e1, e2, h]
    exact rShape_nil w a cap out
  · exact (callsIn_wide (n := 3)).1 (rShape_in 3 (by omega) w a cap out L hLn (by omega) hrd)
/-- What Order holds between two rounds. -/
structure OIt (L : List Nd) (w : World) (a : Option Addr) (cap : Nat) (out0 : Int) (f : Nat) (vo vt : Value) (wr : World) (outl S : List Nat) : Prop where
  ownT : OwnI wr vt S.reverse
  ownO : OwnI wr vo outl
  blT : ∀ b, vt.ownBlock = some b → w.heap.size < b
  blO : ∀ b, vo.ownBlock = some b → w.heap.size < b
  ne : ∀ b, vo.ownBlock = some b → vt.ownBlock ≠ some b
  tb : wr.heap[w.heap.size]? = some (Obj.cells #[Value.int IntKind.i64 out0, Value.slice a L.length cap] 54 (0, 0))
  kp : Keep w wr
  way : Way (shp L) L.length outl S
  str : Str (shp L) L.length outl S
  eq : go (shp L) f outl S = ord (shp L) L.length
  fuel : 3 * (L.length - outl.length) + S.length ≤ f
  top : f ≤ 3 * L.length + 1
/-- What an append leaves as it was. -/
theorem grown_al {A B : World} {o : Obj} {r : Option Nat} (h : (A.alloc o).grownBy B r) : (∀ g, g < A.heap.size → r ≠ some g → B.heap[g]? = A.heap[g]?) ∧ A.heap.size < B.heap.size ∧ B.os = A.os ∧ B.tape = A.tape ∧ B.output = A.output := by
  have hb : Below A.heap.size A (A.alloc o) := (Below.refl _ A).alloc (Nat.le_refl _) o
  have hs := h.size
  rw [World.size_alloc] at hs
  refine ⟨fun g hg hne => ?_, by omega, h.os.trans hb.os, h.tape.trans hb.tape, h.output.trans hb.output⟩
  rw [h.block g (Nat.lt_of_lt_of_le hg hb.size) (fun e => hne e.symm), hb.block g hg]
theorem own_lt {w : World} {v : Value} {l : List Nat} (h : OwnI w v l) {b : Nat} (hb : v.ownBlock = some b) : b < w.heap.size := by
  obtain ⟨cur, hc⟩ := h.block hb
  exact (Array.getElem?_eq_some_iff.1 hc).1
theorem news2 (W : World) (x y : Nat) : ∀ j u, (UI [x, y])[j]? = some u → (W.alloc (Obj.cells #[Value.int .i64 (x : Nat), Value.int .i64 (y : Nat)] 3)).cell? ((⟨W.heap.size, 0, none⟩ : Addr).add j) = some u := by
  intro j u hj
  rw [Go.WideShapes.add_plain, Nat.zero_add, cell_of_row _ _ _ _ 3 (0, 0) (heap_alloc_new W _)]
  match j, hj with
  | 0, hj => simpa [UI] using hj
  | 1, hj => simpa [UI] using hj
  | j + 2, hj => simp [UI] at hj
set_option maxRecDepth 100000 in
set_option maxHeartbeats 4000000 in
theorem rOrder_in (n : Nat) (hn : 3 ≤ n) (w : World) (a : Option Addr) (cap : Nat) (out : Int) (L : List Nd) (hLn : L.length ≤ 2199023255552) (hE : shE L = 0) (hrd : RdN w a L) :
    CallsIn Fence.wide n Try.prog 60 #[.agg #[.int .i64 out, .slice a L.length cap]] w fun e w' => ∃ v, e = .returned v ∧ OwnI w' v (ord (shp L) L.length) ∧ (∀ b, v.ownBlock = some b → w.heap.size ≤ b) ∧ Keep w w' := by
  have h1 : 1 ≤ n := by omega
  have hR := shE_rgt hE
  have hT := shE_tr hE
  refine callsIn_of_wp Try.func60 rfl trivial ?_ rfl
  simp only [Try.ntmps60, List.size_toArray, List.length_cons, List.length_nil, Nat.reduceAdd, Nat.reduceSub, Array.replicate_succ, Array.replicate_zero, List.push_toArray, List.append_toArray, List.nil_append, List.cons_append]
  gi_wp2_with fail
  have I0 : OIt L w a cap out (3 * L.length + 1) (.slice none 0 0) (.slice (some ⟨w.heap.size + 1, 0, none⟩) 1 1) ((w.alloc (Obj.cells #[Value.int IntKind.i64 out, Value.slice a L.length cap] 54)).alloc (Obj.cells #[Value.int IntKind.i64 0] 3)) [] [0] := by
    refine ⟨?_, OwnI.nil _, ?_, fun b hb => (by cases hb), fun b hb => (by cases hb), ?_, ((Keep.refl w).alloc _).alloc _, Way.start hR.wi, Str.start _ _, rfl, by simp, by omega⟩
    · refine ⟨rfl, .inr ⟨w.heap.size + 1, 1, #[Value.int IntKind.i64 0], rfl, by omega, ?_, by simp, by decide, by simp, rfl⟩⟩
      have := heap_alloc_new (w.alloc (Obj.cells #[Value.int IntKind.i64 out, Value.slice a L.length cap] 54)) (Obj.cells #[Value.int IntKind.i64 0] 3)
      rw [World.size_alloc] at this
      exact this
    · intro b hb
      have hb : some (w.heap.size + 1) = some b := hb
      simp only [Option.some.injEq] at hb
      omega
    · exact (Below.heap_alloc _ _ _ (by simp)).trans (heap_alloc_new w _)
  generalize hwE : (w.alloc (Obj.cells #[Value.int IntKind.i64 out, Value.slice a L.length cap] 54)).alloc (Obj.cells #[Value.int IntKind.i64 0] 3) = wE at I0 ⊢
  clear hwE
  gi_loopg [3, 4] (3 * L.length + 1) (fun f vo vt wr => ∃ outl S, OIt L w a cap out f vo vt wr outl S)
  case atStart => exact ⟨[], [0], I0⟩
  case round =>
    obtain ⟨outl, S, I⟩ := hrel
    clear I0
    cases S with
    | nil =>
      obtain ⟨av, cv, hv, hcv⟩ := I.ownT.shape
      rw [List.reverse_nil, List.length_nil] at hv
      subst hv
      have hfin : outl = ord (shp L) L.length := by have := I.eq; rw [go_nil] at this; exact this
      subst hfin
      gi_wp2
      go_ret
      exact ⟨_, rfl, I.ownO, fun b hb => Nat.le_of_lt (I.blO b hb), I.kp⟩
    | cons i S =>
      obtain ⟨gw, capw, hv, hcap, hgw, hcells⟩ := I.ownT.cells (by simp)
      have hrl : (i :: S).reverse.length = S.length + 1 := by simp
      have own0 := I.ownT
      rw [hv, List.reverse_cons] at own0
      have own1 := own0.pop
      rw [List.length_reverse] at own1
      have hci : wr.cell? ⟨gw, S.length, none⟩ = some (.int .i64 (i : Nat)) := by
        rw [hcells S.length (by rw [hrl]; omega), show (i :: S).reverse.getD S.length 0 = i by simp [List.getD]]
      rw [hrl] at hv
      subst hv
      have blT : w.heap.size < gw := I.blT gw rfl
      have neT : _ ≠ some gw := fun e => I.ne gw e rfl
      have iN : i < L.length := I.way.ls i List.mem_cons_self
      have hfu := I.fuel
      have htp := I.top
      simp only [List.length_cons] at hfu
      obtain ⟨f, rfl⟩ : ∃ f, gk = f + 1 := ⟨gk - 1, by omega⟩
      have hgo := I.eq
      have hfr := I.str.fresh
      rw [go, if_neg hfr] at hgo
      have wayN := I.way.new hR.wi hfr
      have strN := I.str.next hT I.way
      have hnd := nodup_len wayN.nd wayN.lo
      have hol : outl.length < L.length := by simp at hnd; omega
      have hiN : (i : Int) < (L.length : Int) := by omega
      have hcp : S.length ≤ capw := by rw [hrl] at hcap; omega
      have h48 : outl.length + [i].length ≤ 17592186044416 := by simp; omega
      have ownO := I.ownO
      obtain ⟨ao, co, hvo, hco⟩ := ownO.shape
      subst hvo
      clear own0 hcells
      gi_wp2_with (gi_at_builtin; refine wpListIn_appI _ rfl _ _ rfl outl [i] _ rfl (World.ownsRow.alloc ownO _) ⟨wr.heap.size, 0, none⟩ 1 1 rfl rfl (by simp) ?_ h48 ?_)
      · exact news1 wr i
      · intro vo' w2 ho hgr hsep
        obtain ⟨k2, s2, o2, t2, u2⟩ := grown_al hgr
        have kw : Keep w w2 := ⟨o2.trans I.kp.os, t2.trans I.kp.tape, u2.trans I.kp.output, by have := I.kp.size; omega, fun g hg => (k2 g (by have := I.kp.size; omega) (fun e => by have := I.blO g e; omega)).trans (I.kp.block g hg)⟩
        have hwlt : w.heap.size < wr.heap.size := (Array.getElem?_eq_some_iff.1 I.tb).1
        have tb2 : w2.heap[w.heap.size]? = _ := (k2 _ hwlt (fun e => by have := I.blO _ e; omega)).trans I.tb
        have own2 : OwnI w2 (.slice (some ⟨gw, 0, none⟩) S.length capw) S.reverse := own1.same (fun b hb => by
          have hb : some gw = some b := hb
          simp only [Option.some.injEq] at hb
          subst hb
          exact k2 gw hgw neT)
        have bo2 : ∀ b, vo'.ownBlock = some b → w.heap.size < b ∧ b ≠ gw := by
          intro b hb
          rcases hsep with e | e
          · rw [e] at hb; exact ⟨I.blO b hb, fun e2 => neT (by rw [hb, e2])⟩
          · rw [e] at hb
            simp only [Option.some.injEq] at hb
            omega
        have tc2 : w2.cell? ⟨w.heap.size, 1, none⟩ = some (.slice a L.length cap) := by rw [cell_of_row _ _ 1 _ 54 (0, 0) tb2]; rfl
        obtain ⟨b, o, ca, cp, rfl, hnd2⟩ := (hrd.keep kw) i iN
        obtain ⟨av', cv', hv', hcv'⟩ := ho.shape
        rw [show (outl ++ [i]).length = outl.length + 1 by simp] at hv'
        subst hv'
        have c0 := hnd2.c0
        have c1 := hnd2.c1
        have c2 := hnd2.c2
        have c3 := hnd2.c3
        have c4 := hnd2.c4
        have c5 := hnd2.c5
        have c6 := hnd2.c6
        have c7 := hnd2.c7
        have hK : (shp L).K i = decide ((L.getD i nd0).kd = 2 ∨ (L.getD i nd0).kd = 3) := rfl
        have hrt := hR.2 i iN
        have gw2 : gw < w2.heap.size := by omega
        clear hgr hsep k2 o2 t2 u2 own1 hci I hnd2
        by_cases hki : (shp L).K i = true
        · rw [if_pos hki] at hgo wayN strN
          obtain ⟨⟨e6, l6, p6⟩, ⟨e7, l7, p7⟩⟩ := hR.kids iN hki
          have q1 : (((L.getD i nd0).kd : Int) == 1) = false := by
            rw [hK, decide_eq_true_eq] at hki
            rw [beq_eq_false_iff_ne]; omega
          have q2 : (((L.getD i nd0).kd : Int) != 1) = true := by
            rw [hK, decide_eq_true_eq] at hki
            rw [bne_iff_ne]; omega
          rw [e6] at c6
          rw [e7] at c7
          generalize (shp L).A i = ai at *
          generalize (shp L).B i = bi at *
          clear hK hki hrt e6 e7
          generalize L.getD i nd0 = N at *
          have h49 : S.reverse.length + [bi, ai].length ≤ 17592186044416 := by simp; omega
          gi_wp2_with (gi_at_builtin; refine wpListIn_appI _ rfl _ _ rfl S.reverse [bi, ai] _ rfl (World.ownsRow.alloc (World.ownsRow.alloc own2 _) _) ⟨w2.heap.size + 1, 0, none⟩ 2 2 rfl rfl (by simp) ?_ h49 ?_)
          · intro j u hj
            have := news2 (w2.alloc (Obj.cells #[Value.int IntKind.u8 N.kd, Value.int IntKind.i64 N.vl, Value.int IntKind.i64 N.ft, Value.float FloatKind.f64 N.th, Value.slice ca N.cs.length cp, Value.int IntKind.u8 N.ms, Value.int IntKind.i64 (ai : Nat), Value.int IntKind.i64 (bi : Nat)] 83)) bi ai j u hj
            rw [World.size_alloc] at this
            exact this
          · intro vt' w4 ho4 hgr4 hsep4
            obtain ⟨k4, s4, o4, t4, u4⟩ := grown_al hgr4
            have kb : Keep w2 (w2.alloc (Obj.cells #[Value.int IntKind.u8 N.kd, Value.int IntKind.i64 N.vl, Value.int IntKind.i64 N.ft, Value.float FloatKind.f64 N.th, Value.slice ca N.cs.length cp, Value.int IntKind.u8 N.ms, Value.int IntKind.i64 (ai : Nat), Value.int IntKind.i64 (bi : Nat)] 83)) := (Keep.refl w2).alloc _
            have kk : ∀ g, g < w2.heap.size → g ≠ gw → w4.heap[g]? = w2.heap[g]? := fun g hg hne => (k4 g (by simp; omega) (fun e => by
              have e : some gw = some g := e
              simp only [Option.some.injEq] at e
              exact hne e.symm)).trans (kb.block g hg)
            rw [World.size_alloc] at s4
            have HI : OIt L w (some ⟨b, o, none⟩) cap out f (.slice av' (outl.length + 1) cv') vt' w4 (outl ++ [i]) (ai :: bi :: S) := by
              refine ⟨?_, ?_, ?_, fun b hb => (bo2 b hb).1, ?_, ?_, ?_, wayN, strN, hgo, by simp; omega, by omega⟩
              · rw [show (ai :: bi :: S).reverse = S.reverse ++ [bi, ai] by simp]; exact ho4
              · exact ho.same (fun b hb => kk b (own_lt ho hb) (bo2 b hb).2)
              · intro b' hb'
                rcases hsep4 with e | e
                · rw [e] at hb'
                  have hb' : some gw = some b' := hb'
                  simp only [Option.some.injEq] at hb'
                  omega
                · rw [e] at hb'
                  simp only [Option.some.injEq] at hb'
                  have := kw.size
                  omega
              · intro b' hb' hb2
                have hlt := own_lt ho hb'
                rcases hsep4 with e | e
                · rw [e] at hb2
                  have hb2 : some gw = some b' := hb2
                  simp only [Option.some.injEq] at hb2
                  exact (bo2 b' hb').2 hb2.symm
                · rw [e] at hb2
                  simp only [Option.some.injEq] at hb2
                  omega
              · exact (kk _ (by omega) (by omega)).trans tb2
              · exact ⟨o4.trans (kb.os.trans kw.os), t4.trans (kb.tape.trans kw.tape), u4.trans (kb.output.trans kw.output), by have := kw.size; omega, fun g hg => (kk g (by have := kw.size; omega) (by omega)).trans (kw.block g hg)⟩
            obtain ⟨at', ct', hvt, hct'⟩ := ho4.shape
            rw [show (S.reverse ++ [bi, ai]).length = S.length + 2 by simp] at hvt
            subst hvt
            clear ho4 hgr4 hsep4 k4 kk kb o4 t4 u4 wayN strN hgo ho own2
            gi_wp2
            gi_roundg f
            case rel => exact ⟨_, _, HI⟩
            case measure => omega
        · have hkf : (shp L).K i = false := by simpa using hki
          rw [if_neg hki] at hgo wayN strN
          have hk1 : (L.getD i nd0).kd = 1 := by
            unfold rightB at hrt
            rw [hK, decide_eq_true_eq] at hki
            split at hrt
            · assumption
            · rw [if_neg (by omega), if_neg (by omega)] at hrt; cases hrt
          have q1 : (((L.getD i nd0).kd : Int) == 1) = true := by rw [beq_iff_eq]; omega
          have q2 : (((L.getD i nd0).kd : Int) != 1) = false := by rw [bne_eq_false_iff_eq]; omega
          have HI : ∀ ob, OIt L w (some ⟨b, o, none⟩) cap out f (.slice av' (outl.length + 1) cv') (.slice (some ⟨gw, 0, none⟩) S.length capw) (w2.alloc ob) (outl ++ [i]) S := by
            intro ob
            have kb : Keep w2 (w2.alloc ob) := (Keep.refl w2).alloc _
            refine ⟨?_, ?_, ?_, fun b hb => (bo2 b hb).1, ?_, ?_, kw.trans kb, wayN, strN, hgo, by simp; omega, by omega⟩
            · exact World.ownsRow.alloc own2 _
            · exact World.ownsRow.alloc ho _
            · intro b' hb'
              have hb' : some gw = some b' := hb'
              simp only [Option.some.injEq] at hb'
              omega
            · intro b' hb' hb2
              have hb2 : some gw = some b' := hb2
              simp only [Option.some.injEq] at hb2
              exact (bo2 b' hb').2 hb2.symm
            · exact (kb.block _ (by omega)).trans tb2
          clear hK hki hkf hk1 hrt hgo wayN strN own2 ho
          generalize L.getD i nd0 = N at *
          gi_wp2
          gi_roundg f
          case rel => exact ⟨_, _, HI _⟩
          case measure => omega
end Go.Proofs.Ytaogjiffnebnkaa.Mk
