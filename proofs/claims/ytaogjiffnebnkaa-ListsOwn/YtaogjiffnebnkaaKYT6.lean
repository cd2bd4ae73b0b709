import Derived.Test.YtaogjiffnebnkaaProg
import Derived.Test.YtaogjiffnebnkaaKYT5
import Derived.WalkKit
import Derived.WalkSpells
import Derived.WalkLawsBesides
import Derived.Deep.Draws
import Derived.Deep.QuietTactic
import Derived.BigQuiet
import Derived.Laws.Externs
import Derived.Laws.CopyOwn
import Derived.RangeFuncBox
import Derived.RangeFuncLeaves
import Derived.RangeFuncCalls
import Derived.RangeFuncRecord
import Derived.Below
import Derived.Shelf.Abstract
import Derived.OwnWalkIn
import Derived.TacticsInMore
import Derived.LoopNIn
import Derived.LoopIn
import Derived.Sort.LoopGhostIn
import Derived.Deep.RegionLaw
set_option linter.unusedVariables false
set_option linter.unusedSimpArgs false
namespace Go.Proofs.Ytaogjiffnebnkaa.Mk
open Go.RowKit Go.Shelf
attribute [local go_sem] Oper.semAt_some
/-- What has been met stays ahead. -/
theorem go_pre (t : Sh) : ∀ (f : Nat) (out S : List Nat), out <+: go t f out S
  | 0, out, _ => by rw [go]; exact List.prefix_refl _
  | f + 1, out, [] => by rw [go]; exact List.prefix_refl _
  | f + 1, out, i :: s => by
    rw [go]
    split
    · exact go_pre t f out s
    · exact List.IsPrefix.trans (List.prefix_append _ _) (go_pre t f (out ++ [i]) _)
theorem Stp.alloc (T : Nat → Prop) (A : World) (o : Obj) : Stp T A (A.alloc o) :=
  have h := (Below.refl A.heap.size A).alloc (Nat.le_refl _) o
  ⟨h.os, h.tape, h.output, h.size, fun g hg _ => h.block g hg⟩
theorem Stp.set {T : Nat → Prop} {A : World} {g j : Nat} (v : Value) (h : T g) : Stp T A (A.setCell ⟨g, j, none⟩ v) :=
  ⟨rfl, rfl, rfl, by simp, fun k _ hk => Below.heap_setCell _ _ _ _ (fun e => hk (by simp at e; subst e; exact h))⟩
theorem Stp.grown {T : Nat → Prop} {A B : World} {row : Option Nat} (h : A.grownBy B row) (hr : ∀ b, row = some b → T b) : Stp T A B :=
  ⟨h.os, h.tape, h.output, h.size, fun g hg ht => h.block g hg (fun e => ht (hr g e.symm))⟩
theorem Stp.app {T : Nat → Prop} {A B : World} {o : Obj} {gw : Nat} (hgr : (A.drew.alloc o).grownBy B (some gw)) (h : T gw) : Stp T A B := by
  have hb : Below A.heap.size A (A.drew.alloc o) := (Below.refl A.heap.size A).drew.alloc (Nat.le_refl _) o
  refine ⟨hgr.os.trans hb.os, hgr.tape.trans hb.tape, hgr.output.trans hb.output, Nat.le_trans hb.size hgr.size, ?_⟩
  intro g hg ht
  rw [hgr.block g (Nat.lt_of_lt_of_le hg hb.size) (fun e => by simp only [Option.some.injEq] at e; subst e; exact ht h), hb.block g hg]
theorem Itr.push {L : List Nd} {n0 Bs gm : Nat} {a : Option Addr} {cap : Nat} {J : List (Fin L.length) → (Nat → Prop) → World → Prop} {f : Nat} {A w3 : World} {out : List (Fin L.length)} {S : List Nat} {T : Nat → Prop} {o : Obj} {gw ai bi : Nat} {v' : Value}
    (hgr : (A.drew.alloc o).grownBy w3 (some gw)) (gwT : T gw) (gwne : gw ≠ gm) (Bsne : Bs ≠ gw) (hown : OwnI w3 v' (S.reverse ++ [bi, ai])) (hsep : v'.ownBlock = some gw ∨ v'.ownBlock = some (A.heap.size + 1))
    (row : RowB A gm (mets L.length (nums out))) (gmT : T gm) (BsT : T Bs) (lt : ∀ g, T g → n0 ≤ g ∧ g < A.heap.size) (hn : n0 ≤ gm) (j : J out (more T A w3) w3) (way : Way (shp L) L.length (nums out) (ai :: bi :: S)) (eq : go (shp L) f (nums out) (ai :: bi :: S) = ord (shp L) L.length)
    (fuel : 3 * (L.length - out.length) + (S.length + 2) ≤ f) (top : f ≤ 3 * L.length + 1) (box : A.cell? ⟨Bs, 0, none⟩ = some (.slice a L.length cap)) (rd : RdB n0 A a L) : Itr L n0 Bs gm a cap J f v' w3 out (ai :: bi :: S) (more T A w3) := by
  have st : Stp T A w3 := Stp.app hgr gwT
  have hb : Below A.heap.size A (A.drew.alloc o) := (Below.refl A.heap.size A).drew.alloc (Nat.le_refl _) o
  have keep : ∀ g, g < A.heap.size → g ≠ gw → w3.heap[g]? = A.heap[g]? := fun g hg hne => by
    rw [hgr.block g (Nat.lt_of_lt_of_le hg hb.size) (fun e => by simp only [Option.some.injEq] at e; exact hne e), hb.block g hg]
  have hgm := (lt gm gmT).2
  have hBs := (lt Bs BsT).2
  have hgw := lt gw gwT
  refine ⟨?_, ?_, ?_, .inl gmT, .inl BsT, ?_, j, way, eq, by simpa using fuel, top, ?_, ?_⟩
  · rw [show (ai :: bi :: S).reverse = S.reverse ++ [bi, ai] by simp]; exact hown
  · intro b hb'
    rcases hsep with e | e
    · rw [e] at hb'; simp only [Option.some.injEq] at hb'; subst hb'; exact .inl gwT
    · obtain ⟨cur, hc⟩ := hown.block hb'
      rw [e] at hb'
      simp only [Option.some.injEq] at hb'
      subst hb'
      exact .inr ⟨by omega, (Array.getElem?_eq_some_iff.1 hc).1⟩
  · unfold RowB; rw [keep gm hgm (Ne.symm gwne)]; exact row
  · intro g hg
    rcases hg with hg | hg
    · have := lt g hg; have := st.size; omega
    · have := st.size; omega
  · rw [World.cell?_of_block (a := ⟨Bs, 0, none⟩) (keep Bs hBs Bsne)]; exact box
  · exact rd.same (fun g hg => keep g (by omega) (by omega))
/-- append(l, r, q), in a region that draws. -/
theorem step_appI {wr : World} {ops : Array Oper} {o : Oper} {a : Act} {K : Act → World → Prop} {Q : Exit → Act → World → Prop} {E : Prop} (hgd : o.guard = none) (s x : Operand)
    (ho : o.op = .call { callee := .builtin .append, args := #[s, x], argTypes := #[55, 55] }) (l : List Nat) (r q : Nat) (v : Value) (hown : OwnI wr v l) (hlen : l.length + 2 ≤ 17592186044416)
    (hs : a.eval s = v) (hx : a.eval x = .slice (some ⟨wr.heap.size, 0, none⟩) 2 2)
    (hK : ∀ v' w', OwnI w' v' (l ++ [r, q]) → (wr.alloc (.cells #[.int .i64 (r : Nat), .int .i64 (q : Nat)] 3)).grownBy w' v.ownBlock → (v'.ownBlock = v.ownBlock ∨ v'.ownBlock = some (wr.heap.size + 1)) → K (a.put o.dst v') w') :
    if Region.wanted o (yielded ops a.tmps) = true then Oper.wp Try.prog o a (wr.alloc (.cells #[.int .i64 (r : Nat), .int .i64 (q : Nat)] 3)) K Q else E := by
  have hw : Region.wanted o (yielded ops a.tmps) = true := by simp [Region.wanted, hgd]
  rw [if_pos hw]
  obtain ⟨v', w', hr, h2, h3, h4⟩ := appI_sep (wr.alloc (.cells #[.int .i64 (r : Nat), .int .i64 (q : Nat)] 3)) o.type v l [r, q] (World.ownsRow.alloc hown _) ⟨wr.heap.size, 0, none⟩ 2 (by simp) (by
    intro j u hj
    match j, hj with
    | 0, hj => simp [UI] at hj; subst hj; simp [Addr.add]
    | 1, hj => simp [UI] at hj; subst hj; simp [Addr.add]) hlen
  have hr' : (Builtin.append_ #[55, 55] o.type #[v, .slice (some ⟨wr.heap.size, 0, none⟩) 2 2]).run Try.prog (wr.alloc (.cells #[.int .i64 (r : Nat), .int .i64 (q : Nat)] 3)) = .ok v' w' := hr
  unfold Oper.wp execOp
  simp only [ho, resolve, invoke, builtin, Sem.run_bind, Sem.run_pure, Result.andThen_ok, List.map_toArray, List.map_cons, List.map_nil, hs, hx, hr']
  exact hK v' w' h2 h3 (by simpa using h4)
set_option maxRecDepth 100000 in
set_option maxHeartbeats 2000000 in
theorem reach_in (n : Nat) (hn : 1 ≤ n) (y Bs n0 : Nat) (a : Option Addr) (cap : Nat) (L : List Nd) (hLn : L.length ≤ 2199023255552) (hR : Rgt L) (J : List (Fin L.length) → (Nat → Prop) → World → Prop) (Jx : List (Fin L.length) → World → Prop)
    (hJ1 : ∀ pre T A B, J pre T A → Stp T A B → J pre (more T A B) B)
    (hY : ∀ pre x T A, J pre T A → pre.length < L.length → YieldAt Fence.wide (n - 1) Try.prog y #[Value.int .i64 ((x.val : Nat) : Int)] A fun e A' => (e = .returned (.bool true) ∧ J (pre ++ [x]) T A' ∧ Kpt n0 T A A') ∨ (e = .returned (.bool false) ∧ Jx (pre ++ [x]) A'))
    (W : World) (hBs : W.cell? ⟨Bs, 0, none⟩ = some (.slice a L.length cap)) (hBn : n0 ≤ Bs) (hnW : n0 ≤ W.heap.size) (hrd : RdB n0 W a L) (h0 : J [] (fun g => g = Bs) W) :
    CallsIn Fence.wide n Try.prog 122 #[.func (.yield y) #[] #[], .pointer (some ⟨Bs, 0, none⟩)] W fun e W' => (∃ v, e = .returned v) ∧
      ((∃ xs T, nums xs = ord (shp L) L.length ∧ J xs T W') ∨ ∃ pre, nums pre <+: ord (shp L) L.length ∧ Jx pre W') := by
  have hBl : Bs < W.heap.size := World.block_lt_of_cell? W _ hBs
  have hIn := hR.wi
  have hlen : L.length ≤ 17592186044416 := by omega
  refine callsIn_of_wp Try.func122 rfl trivial ?_ rfl
  simp only [Try.ntmps122, List.size_toArray, List.length_cons, List.length_nil, Nat.reduceAdd, Nat.reduceSub, Array.replicate_succ, Array.replicate_zero, List.push_toArray, List.append_toArray, List.nil_append, List.cons_append]
  gi_wp2_with (gi_at_make; refine wpListIn_makeB _ rfl _ _ rfl _ _ _ _ L.length rfl rfl rfl rfl hlen ?_)
  have hst : ∃ T, Itr L n0 Bs W.heap.size a cap J (3 * L.length + 1) (.slice (some ⟨W.heap.size + 1, 0, none⟩) 1 1) ((W.alloc (Obj.cells (UB (List.replicate L.length false)).toArray 4)).alloc (Obj.cells #[Value.int IntKind.i64 0] 3)) [] [0] T := by
    have s1 := Stp.alloc (fun g => g = Bs) W (Obj.cells (UB (List.replicate L.length false)).toArray 4)
    have j1 := hJ1 _ _ _ _ h0 s1
    have s2 := Stp.alloc (more (fun g => g = Bs) W (W.alloc (Obj.cells (UB (List.replicate L.length false)).toArray 4))) (W.alloc (Obj.cells (UB (List.replicate L.length false)).toArray 4)) (Obj.cells #[Value.int IntKind.i64 0] 3)
    have j2 := hJ1 _ _ _ _ j1 s2
    have kb : Below W.heap.size W ((W.alloc (Obj.cells (UB (List.replicate L.length false)).toArray 4)).alloc (Obj.cells #[Value.int IntKind.i64 0] 3)) := ((Below.refl _ W).alloc (Nat.le_refl _) _).alloc (by simp) _
    refine ⟨_, ?_, ?_, ?_, ?_, ?_, ?_, j2, Way.start hIn, rfl, by simp, by omega, ?_, ?_⟩
    · refine ⟨rfl, .inr ⟨W.heap.size + 1, 1, #[Value.int IntKind.i64 0], rfl, by omega, ?_, by simp, by decide, by simp, rfl⟩⟩
      have := heap_alloc_new (W.alloc (Obj.cells (UB (List.replicate L.length false)).toArray 4)) (Obj.cells #[Value.int IntKind.i64 0] 3)
      rw [World.size_alloc] at this
      exact this
    · intro b hb
      have hb : some (W.heap.size + 1) = some b := hb
      simp only [Option.some.injEq] at hb
      subst hb
      exact .inr ⟨by simp, by simp⟩
    · unfold RowB
      rw [show nums ([] : List (Fin L.length)) = [] from rfl, mets_nil]
      exact (Below.heap_alloc _ _ _ (by simp)).trans (heap_alloc_new W _)
    · exact .inl (.inr ⟨Nat.le_refl _, by simp⟩)
    · exact .inl (.inl rfl)
    · intro g hg
      rcases hg with (hg | hg) | hg
      · subst hg; simp; omega
      · simp at hg ⊢; omega
      · simp at hg ⊢; omega
    · exact (Below.cell kb hBl).trans hBs
    · exact hrd.same (fun g hg => kb.block g (by omega))
  obtain ⟨T0, I0⟩ := hst
  generalize hW2 : (W.alloc (Obj.cells (UB (List.replicate L.length false)).toArray 4)).alloc (Obj.cells #[Value.int IntKind.i64 0] 3) = W2 at I0 ⊢
  generalize hgm : W.heap.size = gm at *
  clear hW2 h0 hBs hrd
  gi_loopg [4] (3 * L.length + 1) (fun f vw wr => ∃ out S T, Itr L n0 Bs gm a cap J f vw wr out S T)
  case atStart => exact ⟨[], [0], T0, I0⟩
  case round =>
    obtain ⟨out, S, T, I⟩ := hrel
    clear I0
    cases S with
    | nil =>
      obtain ⟨av, cv, hv, hcv⟩ := I.own.shape
      rw [List.reverse_nil, List.length_nil] at hv
      subst hv
      have hfin : nums out = ord (shp L) L.length := by have := I.eq; rw [go_nil] at this; exact this
      gi_wp2
      go_end0
      exact ⟨⟨_, rfl⟩, .inl ⟨out, T, hfin, I.j⟩⟩
    | cons i S =>
      obtain ⟨gw, capw, hv, hcap, hgw, hcells⟩ := I.own.cells (by simp)
      have hrl : (i :: S).reverse.length = S.length + 1 := by simp
      have own0 := I.own
      rw [hv, List.reverse_cons] at own0
      have own1 := own0.pop
      rw [List.length_reverse] at own1
      have gwT : T gw := I.inT gw (by rw [hv]; rfl)
      have hci := hcells S.length (by rw [hrl]; omega)
      rw [show (i :: S).reverse.getD S.length 0 = i by simp [List.getD]] at hci
      rw [hrl] at hv
      subst hv
      have iN : i < L.length := I.way.ls i List.mem_cons_self
      have hcm := I.row.cell i (by rw [mets_len]; exact iN)
      rw [mets_get iN] at hcm
      have hfu := I.fuel
      have htp := I.top
      simp only [List.length_cons] at hfu
      obtain ⟨f, rfl⟩ : ∃ f, gk = f + 1 := ⟨gk - 1, by omega⟩
      have hgo := I.eq
      rw [go] at hgo
      have hiN : (i : Int) < (L.length : Int) := by omega
      have hcp : S.length ≤ capw := by rw [hrl] at hcap; omega
      by_cases hm : i ∈ nums out
      · rw [if_pos hm] at hgo
        rw [decide_eq_true hm] at hcm
        have HI : Itr L n0 Bs gm a cap J f (.slice (some ⟨gw, 0, none⟩) S.length capw) wr out S T :=
          ⟨own1, fun b hb => by have hb : some gw = some b := hb; simp only [Option.some.injEq] at hb; subst hb; exact gwT, I.row, I.gmT, I.BsT, I.lt, I.j, I.way.old hm, hgo, by omega, by omega, I.box, I.rd⟩
        clear I hgo own0 own1 hcells
        gi_wp2
        gi_roundg f
        case rel => exact ⟨out, S, T, HI⟩
        case measure => omega
      · rw [if_neg hm] at hgo
        rw [decide_eq_false hm] at hcm
        have hfz := I.row.frozen i
        have wayN := I.way.new hIn hm
        have hnd := nodup_len wayN.nd wayN.lo
        have hol : out.length < L.length := by simp at hnd; omega
        have sA : Stp T wr (wr.setCell ⟨gm, i, none⟩ (.bool true)) := Stp.set _ I.gmT
        have rowA := I.row.set i true
        rw [mets_set iN] at rowA
        have jA := hJ1 _ _ _ _ I.j sA
        have neA : ∀ k, k ≠ gm → (wr.setCell ⟨gm, i, none⟩ (.bool true)).heap[k]? = wr.heap[k]? := fun k hk => Below.heap_setCell _ _ _ _ (by simpa using hk)
        have gwne : gw ≠ gm := by
          intro e
          obtain ⟨cur, hcur⟩ := I.own.block (b := gw) rfl
          have := I.row
          unfold RowB at this
          rw [← e, hcur] at this
          simp at this
        have Bsne : Bs ≠ gm := by omega
        have Bsgw : Bs ≠ gw := by
          intro e
          obtain ⟨cur, hcur⟩ := I.own.block (b := gw) rfl
          have hb := I.box
          rw [e, cell_of_row wr gw 0 cur 3 (0, 0) hcur] at hb
          have h0 := hcells 0 (by rw [hrl]; omega)
          rw [cell_of_row wr gw 0 cur 3 (0, 0) hcur, hb] at h0
          simp at h0
        have ownA : OwnI (wr.setCell ⟨gm, i, none⟩ (.bool true)) (.slice (some ⟨gw, 0, none⟩) S.length capw) S.reverse := own1.same (fun b hb => by
          have hb : some gw = some b := hb
          simp only [Option.some.injEq] at hb
          subst hb
          exact neA gw gwne)
        have boxA : (wr.setCell ⟨gm, i, none⟩ (.bool true)).cell? ⟨Bs, 0, none⟩ = some (.slice a L.length cap) := by rw [World.cell?_of_block (a := ⟨Bs, 0, none⟩) (neA Bs Bsne)]; exact I.box
        have rdA : RdB n0 (wr.setCell ⟨gm, i, none⟩ (.bool true)) a L := I.rd.same (fun g hg => neA g (by omega))
        have szA : (wr.setCell ⟨gm, i, none⟩ (.bool true)).heap.size = wr.heap.size := by simp
        have ltA := I.lt
        have gmT := I.gmT
        have BsT := I.BsT
        have inA : ∀ g, more T wr (wr.setCell ⟨gm, i, none⟩ (.bool true)) g ↔ T g := by
          intro g
          constructor
          · rintro (h | h)
            · exact h
            · rw [szA] at h; omega
          · exact .inl
        obtain ⟨fn, tmps, assign, body, hy, hRd⟩ := hY out ⟨i, iN⟩ _ _ jA hol
        generalize hTA : more T wr (wr.setCell ⟨gm, i, none⟩ (.bool true)) = TA at *
        simp only at hy
        clear jA sA hcells own0 own1 neA I
        gi_wp2
        refine hRd.mono ?_
        rintro e A2 (⟨rfl, hj2, hk2⟩ | ⟨rfl, hjx⟩)
        · clear hRd hy
          have kTA : ∀ g, T g → A2.heap[g]? = (wr.setCell ⟨gm, i, none⟩ (.bool true)).heap[g]? := fun g hg => hk2.block g (by rw [szA]; exact (ltA g hg).2) (.inr ((inA g).2 hg))
          have sz2 := hk2.size
          rw [szA] at sz2
          have box2 : A2.cell? ⟨Bs, 0, none⟩ = some (.slice a L.length cap) := by rw [World.cell?_of_block (a := ⟨Bs, 0, none⟩) (kTA Bs BsT)]; exact boxA
          have rd2 : RdB n0 A2 a L := rdA.same (fun g hg => hk2.block g (by rw [szA]; have := (ltA gm gmT); omega) (.inl hg))
          have own2 : OwnI A2 (.slice (some ⟨gw, 0, none⟩) S.length capw) S.reverse := ownA.same (fun b hb => by
            have hb : some gw = some b := hb
            simp only [Option.some.injEq] at hb
            subst hb
            exact kTA gw gwT)
          have row2 : RowB A2 gm (mets L.length (nums out ++ [i])) := by unfold RowB; rw [kTA gm gmT]; exact rowA
          have hnum : nums (out ++ [⟨i, iN⟩]) = nums out ++ [i] := by simp [nums]
          have ltA2 : ∀ g, TA g → n0 ≤ g ∧ g < A2.heap.size := fun g hg => by have := ltA g ((inA g).1 hg); omega
          have BsTA := (inA Bs).2 BsT
          have gmTA := (inA gm).2 gmT
          have gwTA := (inA gw).2 gwT
          clear boxA rdA ownA rowA hk2 kTA inA hTA ltA hcm hci hfz
          obtain ⟨b, o, rfl, hb, c0, c6, c7⟩ := rd2 i iN
          have hK : (shp L).K i = decide ((L.getD i nd0).kd = 2 ∨ (L.getD i nd0).kd = 3) := rfl
          by_cases hki : (shp L).K i = true
          · obtain ⟨⟨e6, l6, p6⟩, ⟨e7, l7, p7⟩⟩ := hR.kids iN hki
            rw [e6] at c6
            rw [e7] at c7
            rw [if_pos hki] at hgo wayN
            rw [hki] at hK
            have hin := isInner_any (L.getD i nd0).kd
            rw [← hK] at hin
            generalize (shp L).A i = ai at *
            generalize (shp L).B i = bi at *
            generalize (L.getD i nd0).kd = kd at *
            clear hK e6 e7
            gi_wp2_with (refine ⟨trivial, ?_⟩; gi_at_call 94; refine (callsIn_wide.2 (hin _)).mono ?_; rintro e w' ⟨rfl, hw'⟩; have hw2 := hw'.symm; subst hw2)
            have h48 : S.reverse.length + 2 ≤ 17592186044416 := by rw [List.length_reverse]; omega
            have own2' : OwnI A2.drew (.slice (some ⟨gw, 0, none⟩) S.length capw) S.reverse := own2
            rw [wpIn_wide]
            go_region_law (refine step_appI rfl _ _ rfl S.reverse bi ai _ own2' h48 rfl rfl ?_; intro v' w3 hown' hgr hsep)
            all_goals
              have HI := Itr.push (L := L) (n0 := n0) (Bs := Bs) (gm := gm) (a := some ⟨b, o, none⟩) (cap := cap) (J := J) (f := f) (out := out ++ [⟨i, iN⟩]) hgr gwTA gwne Bsgw hown' hsep (by rw [hnum]; exact row2) gmTA BsTA ltA2 hnW (hJ1 _ _ _ _ hj2 (Stp.app hgr gwTA)) (by rw [hnum]; exact wayN) (by rw [hnum]; exact hgo) (by simp; omega) (by omega) box2 rd2
              obtain ⟨av', cv', rfl, hcv'⟩ := hown'.shape
              have e2 : (S.reverse ++ [bi, ai]).length = S.length + 2 := by simp
              rw [e2] at HI ⊢
              clear hown' hgr hsep e2 own2 own2' row2 rd2 hj2 hJ1 hY wayN hgo hin
              go_simp
              gi_wp2
              gi_roundg f
              case rel => exact ⟨_, _, _, HI⟩
              case measure => omega
          · have hkf : (shp L).K i = false := by simpa using hki
            rw [if_neg hki] at hgo wayN
            rw [hkf] at hK
            have hin := isInner_any (L.getD i nd0).kd
            rw [← hK] at hin
            have HI : Itr L n0 Bs gm (some ⟨b, o, none⟩) cap J f (.slice (some ⟨gw, 0, none⟩) S.length capw) A2 (out ++ [⟨i, iN⟩]) S TA :=
              ⟨own2, fun b hb => by have hb : some gw = some b := hb; simp only [Option.some.injEq] at hb; subst hb; exact gwTA, by rw [hnum]; exact row2, gmTA, BsTA, ltA2, hj2, by rw [hnum]; exact wayN, by rw [hnum]; exact hgo, by simp; omega, by omega, box2, rd2⟩
            generalize (L.getD i nd0).kd = kd at *
            clear hK own2 row2 rd2 hj2 hJ1 hY wayN hgo
            gi_wp2_with (refine ⟨trivial, ?_⟩; gi_at_call 94; refine (callsIn_wide.2 (hin _)).mono ?_; rintro e w' ⟨rfl, hw'⟩; have hw2 := hw'.symm; subst hw2)
            gi_roundg f
            case rel => exact ⟨_, _, _, HI⟩
            case measure => omega
        · have hpre : Hid (nums (out ++ [⟨i, iN⟩]) <+: ord (shp L) L.length) := by
            show _ <+: _
            rw [← hgo, show nums (out ++ [⟨i, iN⟩]) = nums out ++ [i] by simp [nums]]
            exact go_pre _ _ _ _
          gi_wp2
          refine bodyPost_ret (results_none rfl _ _ _) rfl ?_
          exact ⟨⟨_, rfl⟩, .inr ⟨_, hpre.out, hjx⟩⟩
end Go.Proofs.Ytaogjiffnebnkaa.Mk
