import Derived.Test.YtbchinfmdioijaaR4
import Derived.Deep.RegionHeld3
set_option linter.unusedVariables false
set_option linter.unusedSimpArgs false
namespace Go.Proofs.Ytbchinfmdioijaa
open Go.RowKit Go.Shelf
attribute [local go_sem] Oper.semAt_some
attribute [local go_sem] run_store_float
/-- What the reference's Way holds between two rounds. -/
structure WIt (L : List Nd) (xs : List Nat) (w : World) (o0 : Obj) (vo : Value) (wr : World) (l : List Nat) (i : Nat) : Prop where
  own : OwnI wr vo (l ++ [i])
  bo : ∀ b, vo.ownBlock = some b → w.heap.size < b
  tb : wr.heap[w.heap.size]? = some o0
  kp : Keep w wr
  lv : Lv (shp L) i l.length
  eq : l ++ path (shp L) (chs L xs) (L.length - 1 - l.length) i = way (shp L) (chs L xs) L.length
set_option maxRecDepth 100000 in
set_option maxHeartbeats 4000000 in
theorem rWay_in (n : Nat) (hn : 3 ≤ n) (a ax : Option Addr) (cap cx : Nat) (out : Int) (L : List Nd) (xs : List Nat) (hLn : L.length ≤ 2199023255552) (hxl : xs.length ≤ 17592186044416) (hE : shE L = 0) (hlk : lackB L xs.length = false) (w : World) (hrd : RdN w a L) (hxd : RdF w ax xs) :
    CallsIn Fence.wide n Try.prog 25 #[.agg #[.int .i64 out, .slice a L.length cap], .slice ax xs.length cx] w fun e w' => ∃ v, e = .returned (.tuple #[v, .int .i64 0]) ∧ OwnI w' v (way (shp L) (chs L xs) L.length) ∧ (∀ b, v.ownBlock = some b → w.heap.size ≤ b) ∧ Keep w w' := by
  have h1 : 1 ≤ n := by omega
  have hR := shE_rgt hE
  have hT := shE_tr hE
  have hS := fun (wx : World) (k : Keep w wx) => rShape_any wx a cap out L hLn (hrd.keep k)
  have hF := fun (wx : World) (k : Keep w wx) => rFits_any wx a cap xs.length out L hLn hR (hrd.keep k)
  rw [hE] at hS
  rw [hlk] at hF
  have k0 : Keep w (w.alloc (Obj.cells #[Value.int IntKind.i64 out, Value.slice a L.length cap] 24)) := (Keep.refl w).alloc _
  have tb : (w.alloc (Obj.cells #[Value.int IntKind.i64 out, Value.slice a L.length cap] 24)).heap[w.heap.size]? = some (Obj.cells #[Value.int IntKind.i64 out, Value.slice a L.length cap] 24 (0, 0)) := heap_alloc_new w _
  refine callsIn_of_wp Try.func25 rfl trivial ?_ rfl
  simp only [Try.ntmps25, List.size_toArray, List.length_cons, List.length_nil, Nat.reduceAdd, Nat.reduceSub, Array.replicate_succ, Array.replicate_zero, List.push_toArray, List.append_toArray, List.nil_append, List.cons_append]
  gi_wp2_with fail
  generalize w.alloc _ = w1 at k0 tb ⊢
  refine ⟨trivial, ?_⟩
  refine (callsIn_wide.2 (hS _ k0)).mono ?_
  rintro e w2 ⟨rfl, k2⟩
  have k02 := k0.trans k2
  have hz1 : w.heap.size < w1.heap.size := (Array.getElem?_eq_some_iff.1 tb).1
  have tb2 := (k2.block _ hz1).trans tb
  have c0 : w2.cell? ⟨w.heap.size, 0, none⟩ = some (.int .i64 out) := by rw [cell_of_row _ _ 0 _ 24 (0, 0) tb2]; rfl
  have c1 : w2.cell? ⟨w.heap.size, 1, none⟩ = some (.slice a L.length cap) := by rw [cell_of_row _ _ 1 _ 24 (0, 0) tb2]; rfl
  gi_wp2_with fail
  refine ⟨trivial, ?_⟩
  refine (callsIn_wide.2 (hF _ k02)).mono ?_
  rintro e w3 ⟨rfl, k3⟩
  have k03 := k02.trans k3
  have hz3 : w.heap.size < w3.heap.size := by have := k2.le; have := k3.le; omega
  have tb3 := (k3.block _ (by have := k2.le; omega)).trans tb2
  have I0 : WIt L xs w (Obj.cells #[Value.int IntKind.i64 out, Value.slice a L.length cap] 24 (0, 0)) (.slice (some ⟨w3.heap.size, 0, none⟩) 1 1) (w3.alloc (Obj.cells #[Value.int IntKind.i64 0] 3)) [] 0 := by
    refine ⟨?_, ?_, (Below.heap_alloc _ _ _ hz3).trans tb3, k03.alloc _, .zero, rfl⟩
    · exact ⟨rfl, .inr ⟨w3.heap.size, 1, #[Value.int IntKind.i64 0], rfl, by omega, heap_alloc_new w3 _, by simp, by decide, by simp, rfl⟩⟩
    · intro b hb
      have hb : some w3.heap.size = some b := hb
      simp only [Option.some.injEq] at hb
      omega
  clear hS hF k0 k02 k2 k3 tb tb2 c0 c1
  gi_wp2_with fail
  generalize w3.alloc _ = wE at I0 ⊢
  clear hz3 tb3 k03
  gi_loopg [8, 9] (L.length + 1) (fun f vo iv wr => ∃ l i, iv = .int .i64 ((i : Nat) : Int) ∧ WIt L xs w (Obj.cells #[Value.int IntKind.i64 out, Value.slice a L.length cap] 24 (0, 0)) vo wr l i ∧ L.length ≤ f + l.length)
  case atStart => exact ⟨[], 0, rfl, I0, by simp⟩
  case round =>
    obtain ⟨l, i, rfl, I, hfu⟩ := hrel
    clear I0
    have iN : i < L.length := I.lv.rch.lt hT.wi
    have hol : l.length < L.length := I.lv.lt hT
    obtain ⟨f, rfl⟩ : ∃ f, gk = f + 1 := ⟨gk - 1, by omega⟩
    have hiN : (i : Int) < (L.length : Int) := by omega
    obtain ⟨b, o, ca, cp, rfl, hnd⟩ := (hrd.keep I.kp) i iN
    have c0 := hnd.c0
    have c1 := hnd.c1
    have c2 := hnd.c2
    have c3 := hnd.c3
    have c4 := hnd.c4
    have c5 := hnd.c5
    have c6 := hnd.c6
    have c7 := hnd.c7
    have t1 : wr.cell? ⟨w.heap.size, 1, none⟩ = some (.slice (some ⟨b, o, none⟩) L.length cap) := by rw [cell_of_row _ _ 1 _ 24 (0, 0) I.tb]; rfl
    have hk1 := hR.kd1 iN
    have hK : (shp L).K i = decide ((L.getD i nd0).kd = 2 ∨ (L.getD i nd0).kd = 3) := rfl
    rw [← hK] at hk1
    have hk2 : (((L.getD i nd0).kd : Int) != 1) = (shp L).K i := by rw [bne, hk1, Bool.not_not]
    have heq := I.eq
    obtain ⟨av, cv, hvv, hcv⟩ := I.own.shape
    rw [show (l ++ [i]).length = l.length + 1 by simp] at hvv
    by_cases hki : (shp L).K i = true
    · have lv2 := I.lv.next (chs L xs) hki
      have hl2 := lv2.lt hT
      rw [show L.length - 1 - l.length = (L.length - 1 - (l.length + 1)) + 1 by omega, path_inner hki] at heq
      obtain ⟨⟨e6, l6, p6⟩, ⟨e7, l7, p7⟩⟩ := hR.kids iN hki
      have hf0 := hR.ft iN hki
      have hf1 := lackB_ft hlk iN hki
      obtain ⟨ft, hft⟩ := Int.eq_ofNat_of_zero_le hf0
      have hub : (ft : Int) < (xs.length : Int) := by omega
      obtain ⟨bx, ox, hax, hcx⟩ := (hxd.keep I.kp) ft (by omega)
      subst hax
      have hch : chs L xs i = decide (gsS (L.getD i nd0) (xs.getD ft 0) = 1) := by unfold chs; rw [hft]; rfl
      have hG := fun (wx : World) (k : Keep wr wx) => rGoes_any (L.getD i nd0) ca cp (xs.getD ft 0) wx (hnd.rd.keep k) hnd.sz hnd.cp
      unfold Nd.v at hG
      rw [hki] at hk1 hk2
      rw [e6] at c6 hG
      rw [e7] at c7 hG
      rw [hft] at c2 hG
      generalize gsS (L.getD i nd0) (xs.getD ft 0) = s at hG hch
      generalize xs.getD ft 0 = xv at hcx hG
      have own1 := I.own
      have h48 : (l ++ [i]).length + 1 ≤ 17592186044416 := by simp; omega
      subst hvv
      obtain ⟨ob, hob⟩ : ∃ ob, Obj.cells #[Value.int IntKind.u8 (L.getD i nd0).kd, Value.int IntKind.i64 (L.getD i nd0).vl, Value.int IntKind.i64 (ft : Nat), Value.float FloatKind.f64 (L.getD i nd0).th, Value.slice ca (L.getD i nd0).cs.length cp, Value.int IntKind.u8 (L.getD i nd0).ms, Value.int IntKind.i64 ((shp L).A i : Nat), Value.int IntKind.i64 ((shp L).B i : Nat)] 40 (0, 0) = ob := ⟨_, rfl⟩
      have kb : Keep wr (wr.alloc ob) := (Keep.refl wr).alloc _
      have hbx : (wr.alloc ob).heap[wr.heap.size]? = some ob := heap_alloc_new wr _
      have x6 : (wr.alloc ob).cell? ⟨wr.heap.size, 6, none⟩ = some (.int .i64 ((shp L).A i : Nat)) := by rw [← hob] at hbx ⊢; rw [cell_of_row _ _ 6 _ 40 (0, 0) hbx]; rfl
      have hcx1 := kb.cell hcx
      generalize (shp L).A i = ai at *
      generalize (shp L).B i = bi at *
      -- what a round leaves
      have HI : ∀ (wB w5 : World) (v' : Value) (i2 : Nat) (oo : Obj), Keep (wr.alloc ob) wB → i2 = (if chs L xs i = true then ai else bi) → OwnI w5 v' ((l ++ [i]) ++ [i2]) → (wB.alloc oo).grownBy w5 (Value.slice av (l.length + 1) cv).ownBlock → (v'.ownBlock = (Value.slice av (l.length + 1) cv).ownBlock ∨ v'.ownBlock = some (wB.heap.size + 1)) →
          WIt L xs w (Obj.cells #[Value.int IntKind.i64 out, Value.slice (some ⟨b, o, none⟩) L.length cap] 24 (0, 0)) v' w5 (l ++ [i]) i2 := by
        intro wB w5 v' i2 oo kB he ho hgr hsep
        obtain ⟨k2, s2, o2, t2, u2⟩ := grown_al hgr
        have kk := kb.trans kB
        have hwlt : w.heap.size < wr.heap.size := (Array.getElem?_eq_some_iff.1 I.tb).1
        have hle := kk.le
        subst he
        refine ⟨ho, ?_, ?_, ?_, by simpa using lv2, by simpa using heq⟩
        · intro b' hb'
          rcases hsep with e | e
          · rw [e] at hb'; exact I.bo b' hb'
          · rw [e] at hb'
            simp only [Option.some.injEq] at hb'
            omega
        · exact (k2 _ (by omega) (fun e => by have := I.bo _ e; omega)).trans ((kk.block _ hwlt).trans I.tb)
        · exact ⟨o2.trans (kk.os.trans I.kp.os), t2.trans (kk.tape.trans I.kp.tape), u2.trans (kk.output.trans I.kp.output), by have := I.kp.size; omega, fun g hg => (k2 g (by omega) (fun e => by have := I.bo g e; omega)).trans ((kk.block g (by omega)).trans (I.kp.block g hg))⟩
      have ownB : ∀ wB, Keep (wr.alloc ob) wB → OwnI wB (.slice av (l.length + 1) cv) (l ++ [i]) := fun wB kB => own1.same (fun b' hb' => (kb.trans kB).block b' (own_lt own1 hb'))
      clear hK hnd heq lv2 e6 e7 I hft hf0 hf1 hbx own1
      have hG1 := hG _ kb.drew
      have kd : Keep (wr.alloc ob) (wr.alloc ob).drew := (Keep.refl _).drew
      have hcx2 := kd.cell hcx1
      subst hob
      generalize L.getD i nd0 = N at *
      by_cases hs : s = 1
      · subst hs
        rw [hch] at HI
        gi_wp2_with fail
        rw [wpIn_wide]
        go_region_with (go_at_call 23; refine hG1.mono ?_; rintro e wB ⟨rfl, kB⟩)
        all_goals
          have y6 := kB.cell (kd.cell x6)
          have ownC := ownB wB (kd.trans kB)
          have HJ := fun w5 v' oo => HI wB w5 v' ai oo (kd.trans kB) (by rfl)
          go_simp
          clear HI hG1 hG ownB
          gi_wp2_with (gi_at_builtin; refine wpListIn_appI _ rfl _ _ rfl (l ++ [i]) [ai] _ rfl (World.ownsRow.alloc ownC _) ⟨wB.heap.size, 0, none⟩ 1 1 rfl rfl (by simp) ?_ h48 ?_)
          · exact news1 wB ai
          · intro v' w5 ho hgr hsep
            have ho : OwnI w5 v' ((l ++ [i]) ++ [ai]) := by rw [List.append_assoc]; exact ho
            have IN := HJ w5 v' _ ho hgr hsep
            obtain ⟨av', cv', rfl, hcv'⟩ := ho.shape
            clear ho hgr hsep HJ ownC
            gi_wp2_with fail
            gi_roundg f
            case rel => exact ⟨_, _, rfl, IN, by simp; omega⟩
            case measure => omega
      · have e1 : ((s : Int) == 1) = false := by rw [beq_eq_false_iff_ne]; omega
        rw [hch, decide_eq_false hs] at HI
        clear hs
        gi_wp2_with fail
        rw [wpIn_wide]
        go_region_with (go_at_call 23; refine hG1.mono ?_; rintro e wB ⟨rfl, kB⟩)
        all_goals
          have ownC := ownB wB (kd.trans kB)
          have HJ := fun w5 v' oo => HI wB w5 v' bi oo (kd.trans kB) (by rfl)
          go_simp
          clear HI hG1 hG ownB
          gi_wp2_with (gi_at_builtin; refine wpListIn_appI _ rfl _ _ rfl (l ++ [i]) [bi] _ rfl (World.ownsRow.alloc ownC _) ⟨wB.heap.size, 0, none⟩ 1 1 rfl rfl (by simp) ?_ h48 ?_)
          · exact news1 wB bi
          · intro v' w5 ho hgr hsep
            have ho : OwnI w5 v' ((l ++ [i]) ++ [bi]) := by rw [List.append_assoc]; exact ho
            have IN := HJ w5 v' _ ho hgr hsep
            obtain ⟨av', cv', rfl, hcv'⟩ := ho.shape
            clear ho hgr hsep HJ ownC
            gi_wp2_with fail
            gi_roundg f
            case rel => exact ⟨_, _, rfl, IN, by simp; omega⟩
            case measure => omega
    · have hkf : (shp L).K i = false := by simpa using hki
      rw [path_leaf hkf] at heq
      rw [hkf] at hk1 hk2
      have hown := I.own
      rw [heq] at hown
      have kp := I.kp
      have bo := I.bo
      clear hK heq hki hkf I hnd
      generalize (L.getD i nd0).kd = kd at *
      gi_wp2_with fail
      go_ret2
      exact ⟨_, rfl, hown, fun b' hb' => Nat.le_of_lt (bo b' hb'), kp⟩
end Go.Proofs.Ytbchinfmdioijaa
set_option linter.unusedVariables false
set_option linter.unusedSimpArgs false
namespace Go.Proofs.Ytbchinfmdioijaa
open Go.RowKit Go.Shelf
set_option maxRecDepth 100000 in
set_option maxHeartbeats 1000000 in
theorem rWay_err (a ax : Option Addr) (cap cx m : Nat) (out : Int) (L : List Nd) (hLn : L.length ≤ 2199023255552) (hE : shE L ≠ 0) (w : World) (hrd : RdN w a L) :
    Calls Try.prog 25 #[.agg #[.int .i64 out, .slice a L.length cap], .slice ax m cx] w fun e w' => e = .returned (.tuple #[.slice none 0 0, .int .i64 (shE L)]) ∧ Keep w w' := by
  have hS := fun (wx : World) (k : Keep w wx) => rShape_any wx a cap out L hLn (hrd.keep k)
  have hB : (shE L == 0) = false := by simpa using hE
  have hB2 : (shE L != 0) = true := by simpa using hE
  have k0 : Keep w (w.alloc (Obj.cells #[Value.int IntKind.i64 out, Value.slice a L.length cap] 24)) := (Keep.refl w).alloc _
  clear hE
  generalize shE L = E at *
  go_enter Try.func25, Try.ntmps25
  go_wp2_with fail
  refine (hS _ k0).mono ?_
  rintro e w2 ⟨rfl, k2⟩
  go_wp2_with fail
  go_ret2
  exact ⟨rfl, k0.trans k2⟩
set_option maxRecDepth 100000 in
set_option maxHeartbeats 1000000 in
theorem rWay_lack (a ax : Option Addr) (cap cx m : Nat) (out : Int) (L : List Nd) (hLn : L.length ≤ 2199023255552) (hE : shE L = 0) (hlk : lackB L m = true) (w : World) (hrd : RdN w a L) :
    Calls Try.prog 25 #[.agg #[.int .i64 out, .slice a L.length cap], .slice ax m cx] w fun e w' => e = .returned (.tuple #[.slice none 0 0, .int .i64 72]) ∧ Keep w w' := by
  have hS := fun (wx : World) (k : Keep w wx) => rShape_any wx a cap out L hLn (hrd.keep k)
  have hF := fun (wx : World) (k : Keep w wx) => rFits_any wx a cap m out L hLn (shE_rgt hE) (hrd.keep k)
  rw [hE] at hS
  rw [hlk] at hF
  have k0 : Keep w (w.alloc (Obj.cells #[Value.int IntKind.i64 out, Value.slice a L.length cap] 24)) := (Keep.refl w).alloc _
  have tb : (w.alloc (Obj.cells #[Value.int IntKind.i64 out, Value.slice a L.length cap] 24)).heap[w.heap.size]? = some (Obj.cells #[Value.int IntKind.i64 out, Value.slice a L.length cap] 24 (0, 0)) := heap_alloc_new w _
  go_enter Try.func25, Try.ntmps25
  go_wp2_with fail
  generalize w.alloc _ = w1 at k0 tb ⊢
  refine (hS _ k0).mono ?_
  rintro e w2 ⟨rfl, k2⟩
  have k02 := k0.trans k2
  have hz1 : w.heap.size < w1.heap.size := (Array.getElem?_eq_some_iff.1 tb).1
  have tb2 := (k2.block _ hz1).trans tb
  have c0 : w2.cell? ⟨w.heap.size, 0, none⟩ = some (.int .i64 out) := by rw [cell_of_row _ _ 0 _ 24 (0, 0) tb2]; rfl
  have c1 : w2.cell? ⟨w.heap.size, 1, none⟩ = some (.slice a L.length cap) := by rw [cell_of_row _ _ 1 _ 24 (0, 0) tb2]; rfl
  go_wp2_with fail
  refine (hF _ k02).mono ?_
  rintro e w3 ⟨rfl, k3⟩
  go_wp2_with fail
  go_ret2
  exact ⟨rfl, k02.trans k3⟩
theorem rWay_any (a ax : Option Addr) (cap cx : Nat) (out : Int) (L : List Nd) (xs : List Nat) (hLn : L.length ≤ 2199023255552) (hxl : xs.length ≤ 17592186044416) (w : World) (hrd : RdN w a L) (hxd : RdF w ax xs) :
    Calls Try.prog 25 #[.agg #[.int .i64 out, .slice a L.length cap], .slice ax xs.length cx] w (LstE w (wyL L xs) (wyE L xs.length)) := by
  by_cases hE : shE L = 0
  · cases hlk : lackB L xs.length
    · have e0 : wyE L xs.length = 0 := by unfold wyE; rw [if_pos hE, hlk]; rfl
      refine ((callsIn_wide (n := 3)).1 (rWay_in 3 (by omega) a ax cap cx out L xs hLn hxl hE hlk w hrd hxd)).mono ?_
      rintro e w' ⟨v, rfl, h1, h2, h3⟩
      refine ⟨v, by rw [e0], ?_, h2, h3⟩
      unfold wyL; rw [if_pos e0]; exact h1
    · have e0 : wyE L xs.length = 72 := by unfold wyE; rw [if_pos hE, hlk]; rfl
      refine (rWay_lack a ax cap cx xs.length out L hLn hE hlk w hrd).mono ?_
      rintro e w' ⟨rfl, h3⟩
      refine ⟨_, by rw [e0], ?_, fun b hb => (by cases hb), h3⟩
      unfold wyL; rw [if_neg (by rw [e0]; decide)]; exact OwnI.nil _
  · have e0 : wyE L xs.length = shE L := by unfold wyE; rw [if_neg hE]
    refine (rWay_err a ax cap cx xs.length out L hLn hE w hrd).mono ?_
    rintro e w' ⟨rfl, h3⟩
    refine ⟨_, by rw [e0], ?_, fun b hb => (by cases hb), h3⟩
    unfold wyL; rw [if_neg (by rw [e0]; exact hE)]; exact OwnI.nil _
/-- A leaf's place among the leaves. -/
theorem plc_at {L : List Nd} {en : Nat} (hE : shE L = 0) (hen : en < L.length) (hK : (shp L).K en = false) : ∃ q, lvs L = ((ord (shp L) L.length).takeWhile (fun i => decide (i ≠ en))).filter (fun i => (!decide ((L.getD i nd0).kd = 2 ∨ (L.getD i nd0).kd = 3))) ++ en :: q ∧ en ∉ ((ord (shp L) L.length).takeWhile (fun i => decide (i ≠ en))).filter (fun i => (!decide ((L.getD i nd0).kd = 2 ∨ (L.getD i nd0).kd = 3))) := by
  have hm : en ∈ ord (shp L) L.length := ord_all (shE_tr hE) hen
  obtain ⟨p, q, hpq, hp⟩ : ∃ p q, ord (shp L) L.length = p ++ en :: q ∧ en ∉ p := List.eq_append_cons_of_mem hm
  have htw : (ord (shp L) L.length).takeWhile (fun i => decide (i ≠ en)) = p := takeWhile_pre ⟨q, by rw [hpq]; simp⟩ hp
  rw [htw]
  have hKe : (!decide ((L.getD en nd0).kd = 2 ∨ (L.getD en nd0).kd = 3)) = true := by
    have : (shp L).K en = decide ((L.getD en nd0).kd = 2 ∨ (L.getD en nd0).kd = 3) := rfl
    rw [← this, hK]; rfl
  refine ⟨q.filter (fun i => (!decide ((L.getD i nd0).kd = 2 ∨ (L.getD i nd0).kd = 3))), ?_, fun h => hp (List.mem_filter.1 h).1⟩
  unfold lvs
  rw [if_pos hE, hpq, List.filter_append, List.filter_cons, if_pos hKe]
set_option maxRecDepth 100000 in
set_option maxHeartbeats 2000000 in
theorem rLeaf_any (a ax : Option Addr) (cap cx : Nat) (out : Int) (L : List Nd) (xs : List Nat) (hLn : L.length ≤ 2199023255552) (hxl : xs.length ≤ 17592186044416) (w : World) (hrd : RdN w a L) (hxd : RdF w ax xs) :
    Calls Try.prog 27 #[.agg #[.int .i64 out, .slice a L.length cap], .slice ax xs.length cx] w fun e w' => e = .returned (.tuple #[.int .i64 (lfK L xs : Nat), .int .i64 (lfV L xs), .int .i64 (wyE L xs.length)]) ∧ Keep w w' := by
  have hW := fun (wx : World) (k : Keep w wx) => rWay_any a ax cap cx out L xs hLn hxl wx (hrd.keep k) (hxd.keep k)
  have hL := fun (wx : World) (k : Keep w wx) => rLeaves_any a cap out L hLn wx (hrd.keep k)
  have k0 : Keep w (w.alloc (Obj.cells #[Value.int IntKind.i64 out, Value.slice a L.length cap] 24)) := (Keep.refl w).alloc _
  have tb : (w.alloc (Obj.cells #[Value.int IntKind.i64 out, Value.slice a L.length cap] 24)).heap[w.heap.size]? = some (Obj.cells #[Value.int IntKind.i64 out, Value.slice a L.length cap] 24 (0, 0)) := heap_alloc_new w _
  have hW1 := hW _ k0
  clear hW
  by_cases hE : wyE L xs.length = 0
  · obtain ⟨hS, hlk⟩ := wyE_ok hE
    obtain ⟨l, hl, hK, hen, hll⟩ := way_last (xs := xs) hS
    have HR : Hid (lfK L xs = plc L (endN L xs) ∧ lfV L xs = (L.getD (endN L xs) nd0).vl ∧ wyE L xs.length = 0) := ⟨by unfold lfK; rw [if_pos hE], by unfold lfV; rw [if_pos hE], hE⟩
    have hy : wyL L xs = l ++ [endN L xs] := by unfold wyL; rw [if_pos hE]; exact hl
    obtain ⟨q, hlv, hnp⟩ := plc_at hS hen hK
    have hpl : plc L (endN L xs) = (((ord (shp L) L.length).takeWhile (fun i => decide (i ≠ endN L xs))).filter (fun i => (!decide ((L.getD i nd0).kd = 2 ∨ (L.getD i nd0).kd = 3)))).length := rfl
    rw [hS, hlv] at hL
    rw [hE, hy] at hW1
    rw [hl] at hll
    have hlo : (lvs L).length ≤ L.length := by
      unfold lvs; rw [if_pos hS]
      have := List.length_filter_le (fun i => (!decide ((L.getD i nd0).kd = 2 ∨ (L.getD i nd0).kd = 3))) (ord (shp L) L.length)
      have := ord_len (shE_rgt hS).wi
      omega
    rw [hlv] at hlo
    simp only [List.length_append, List.length_singleton, List.length_cons] at hll hlo
    generalize ((ord (shp L) L.length).takeWhile (fun i => decide (i ≠ endN L xs))).filter (fun i => (!decide ((L.getD i nd0).kd = 2 ∨ (L.getD i nd0).kd = 3))) = p at *
    generalize endN L xs = en at *
    have HP : Hid (plc L en = p.length) := hpl
    clear hl hK hy hE hS hlk hpl hlv
    go_enter Try.func27, Try.ntmps27
    go_wp2_with fail
    generalize w.alloc _ = w1 at k0 tb hW1 ⊢
    refine hW1.mono ?_
    rintro e w2 ⟨v, rfl, ho, hb, k2⟩
    obtain ⟨g, cv, rfl, hcv, hg, hcell⟩ := ho.cells (by simp)
    have hce := hcell l.length (by simp)
    rw [show (l ++ [en]).getD l.length 0 = en by simp [List.getD]] at hce
    have hz1 : w.heap.size < w1.heap.size := (Array.getElem?_eq_some_iff.1 tb).1
    have tb2 := (k2.block _ hz1).trans tb
    have c0 : w2.cell? ⟨w.heap.size, 0, none⟩ = some (.int .i64 out) := by rw [cell_of_row _ _ 0 _ 24 (0, 0) tb2]; rfl
    have c1 : w2.cell? ⟨w.heap.size, 1, none⟩ = some (.slice a L.length cap) := by rw [cell_of_row _ _ 1 _ 24 (0, 0) tb2]; rfl
    have k02 := k0.trans k2
    have hlen : (l ++ [en]).length = l.length + 1 := by simp
    rw [hlen] at hcv ⊢
    clear ho hb hcell hlen hW1
    go_wp2_with fail
    refine (hL _ k02).mono ?_
    rintro e w3 ⟨v, rfl, ho, hb, k3⟩
    obtain ⟨g3, cv3, rfl, hcv3, hg3, hcell3⟩ := ho.cells (by simp; omega)
    have hce3 := k3.cell hce
    have c13 := k3.cell c1
    have k03 := k02.trans k3
    obtain ⟨b, o, ca, cp, rfl, hnd⟩ := (hrd.keep k03) en hen
    have hv := hnd.c1
    have hei : (en : Int) < (L.length : Int) := by omega
    have hlen3 : (p ++ en :: q).length = p.length + 1 + q.length := by simp; omega
    clear ho hb hL hnd k0 k2 k3 k02 c0 c1 hce tb tb2
    generalize (L.getD en nd0).vl = V at hv HR
    rw [hlen3]
    go_wp2_with fail
    go_loop [29] (fun iv => ∃ k : Nat, k ≤ p.length ∧ iv = .int .i64 k) (fun iv => p.length + 1 - (intOf iv).toNat)
    case atStart => exact ⟨0, by omega, rfl⟩
    case round =>
      obtain ⟨k, hk, rfl⟩ := hrel
      have hkc : (k : Int) < ((p.length + 1 + q.length : Nat) : Int) := by omega
      have hkc2 : (k : Int) < (p.length : Int) + 1 + (q.length : Int) := by omega
      by_cases hkp : k < p.length
      · have hx : g3 = g3 ∧ w3.cell? ⟨g3, k, none⟩ = some (.int .i64 ((p.getD k 0 : Nat) : Int)) := ⟨rfl, by rw [hcell3 k (by omega)]; simp [List.getD, List.getElem?_append_left, hkp]⟩
        have hne : p.getD k 0 ≠ en := fun e => hnp (by rw [← e]; simp [List.getD, hkp])
        obtain ⟨-, hx⟩ := hx
        generalize p.getD k 0 = x at *
        have q1 : ((x : Int) == (en : Int)) = false := by rw [beq_eq_false_iff_ne]; omega
        clear hcell3
        go_wp2_with fail
        go_round
        case rel => exact ⟨k + 1, by omega, by go_num⟩
        case measure => simp [intOf]; omega
      · have hke : k = p.length := by omega
        have hx : w3.cell? ⟨g3, k, none⟩ = some (.int .i64 (en : Nat)) := by rw [hcell3 k (by omega)]; simp [List.getD, hke]
        have HKE : Hid (k = p.length) := hke
        clear hcell3 hke
        go_wp2_with fail
        go_region_with fail
        all_goals
          go_simp
          go_wp2_with fail
          go_ret3
          obtain ⟨r1, r2, r3⟩ := HR.out
          rw [r1, r2, r3, HP.out, ← HKE.out]
          exact ⟨rfl, k03.drew⟩
  · have HR : Hid (lfK L xs = 0 ∧ lfV L xs = 0) := ⟨by unfold lfK; rw [if_neg hE], by unfold lfV; rw [if_neg hE]⟩
    have hB : (wyE L xs.length == 0) = false := by simpa using hE
    have hB2 : (wyE L xs.length != 0) = true := by simpa using hE
    generalize wyE L xs.length = E at *
    go_enter Try.func27, Try.ntmps27
    go_wp2_with fail
    generalize w.alloc _ = w1 at k0 tb hW1 ⊢
    refine hW1.mono ?_
    rintro e w2 ⟨v, rfl, ho, hb, k2⟩
    go_wp2_with fail
    go_ret3
    rw [HR.out.1, HR.out.2]
    exact ⟨rfl, k0.trans k2⟩
end Go.Proofs.Ytbchinfmdioijaa
