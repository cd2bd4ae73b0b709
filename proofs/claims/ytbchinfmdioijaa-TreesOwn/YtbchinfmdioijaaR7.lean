import Derived.Test.YtbchinfmdioijaaR3
import Derived.Test.YtbchinfmdioijaaU5
import Derived.Deep.RegionWith
set_option linter.unusedVariables false
set_option linter.unusedSimpArgs false
namespace Go.Proofs.Ytbchinfmdioijaa
open Go.RowKit Go.Shelf
attribute [local go_sem] Oper.semAt_some
attribute [local go_sem] run_store_float
/-- The greatest depth of the leaves met so far. -/
def LfM (t : Sh) (p : List Nat) (R : Nat) : Prop := (∀ i ∈ p, t.K i = false → ∀ k, Lv t i k → k ≤ R) ∧ (R = 0 ∨ ∃ i ∈ p, Lv t i R)
theorem LfM.inner {t : Sh} {p : List Nat} {R i : Nat} (h : LfM t p R) (hk : t.K i = true) : LfM t (p ++ [i]) R := by
  refine ⟨?_, ?_⟩
  · intro j hj hkj k hl
    rcases List.mem_append.1 hj with hj | hj
    · exact h.1 j hj hkj k hl
    · simp at hj; subst hj; rw [hk] at hkj; cases hkj
  · rcases h.2 with h0 | ⟨j, hj, hl⟩
    · exact .inl h0
    · exact .inr ⟨j, List.mem_append_left _ hj, hl⟩
theorem LfM.leaf {t : Sh} {n : Nat} (ht : Tr t n) {p : List Nat} {R i d : Nat} (h : LfM t p R) (hl : Lv t i d) : LfM t (p ++ [i]) (if R < d then d else R) := by
  refine ⟨?_, ?_⟩
  · intro j hj hkj k hlj
    rcases List.mem_append.1 hj with hj | hj
    · have := h.1 j hj hkj k hlj; split <;> omega
    · simp at hj; subst hj
      have := Lv.one ht _ _ _ hlj hl
      split <;> omega
  · split
    · exact .inr ⟨i, by simp, hl⟩
    · rcases h.2 with h0 | ⟨j, hj, hlj⟩
      · exact .inl h0
      · exact .inr ⟨j, List.mem_append_left _ hj, hlj⟩
theorem LfM.done {t : Sh} {n R : Nat} (ht : Tr t n) (h : LfM t (ord t n) R) : dep t n = R :=
  dep_leaf ht (fun i hi hk k hl => h.1 i (ord_all ht hi) hk k hl) (by
    rcases h.2 with h0 | ⟨i, hi, hl⟩
    · exact .inl h0
    · exact .inr ⟨i, ord_lt ht.wi i hi, hl⟩)
theorem Stp.drew2 {T : Nat → Prop} {A B : World} (h : Stp T A B) : Stp T A B.drew.drew := ⟨h.os, h.tape, h.output, h.size, h.block⟩
theorem drop_hd {α : Type} (l : List α) (k : Nat) (d : α) (h : k < l.length) : l.drop k = l.getD k d :: l.drop (k + 1) := by
  rw [List.drop_eq_getElem_cons h]; simp [List.getD, h]
theorem tr_ne {t : Sh} {n i k : Nat} (ht : Tr t n) (h : Lv t i k) (hk : t.K i = true) : t.A i ≠ i := by
  intro e
  have h2 := Lv.left h hk
  rw [e] at h2
  have := Lv.one ht _ _ _ h h2
  omega
set_option maxRecDepth 100000 in
set_option maxHeartbeats 4000000 in
theorem rDepth_in (n : Nat) (hn : 3 ≤ n) (w : World) (a : Option Addr) (cap : Nat) (out : Int) (L : List Nd) (hLn : L.length ≤ 2199023255552) (hE : shE L = 0) (hrd : RdN w a L) :
    CallsIn Fence.wide n Try.prog 20 #[.agg #[.int .i64 out, .slice a L.length cap]] w fun e w' => e = .returned (.tuple #[.int .i64 (dep (shp L) L.length : Nat), .int .i64 0]) ∧ Keep w w' := by
  have h1 : 1 ≤ n := by omega
  have hlen : L.length ≤ 17592186044416 := by omega
  have hR := shE_rgt hE
  have hT := shE_tr hE
  have hS := fun (wx : World) (k : Keep w wx) => rShape_any wx a cap out L hLn (hrd.keep k)
  have hO := fun (wx : World) (k : Keep w wx) => rOrder_any wx a cap out L hLn hE (hrd.keep k)
  rw [hE] at hS
  have k0 : Keep w (w.alloc (Obj.cells #[Value.int IntKind.i64 out, Value.slice a L.length cap] 24)) := (Keep.refl w).alloc _
  have tb : (w.alloc (Obj.cells #[Value.int IntKind.i64 out, Value.slice a L.length cap] 24)).heap[w.heap.size]? = some (Obj.cells #[Value.int IntKind.i64 out, Value.slice a L.length cap] 24 (0, 0)) := heap_alloc_new w _
  refine callsIn_of_wp Try.func20 rfl trivial ?_ rfl
  simp only [Try.ntmps20, List.size_toArray, List.length_cons, List.length_nil, Nat.reduceAdd, Nat.reduceSub, Array.replicate_succ, Array.replicate_zero, List.push_toArray, List.append_toArray, List.nil_append, List.cons_append]
  gi_wp2_with fail
  generalize w.alloc _ = w1 at k0 tb ⊢
  refine ⟨trivial, ?_⟩
  refine (callsIn_wide.2 (hS _ k0)).mono ?_
  rintro e w2 ⟨rfl, k2⟩
  have k02 := k0.trans k2
  have hz1 : w.heap.size < w1.heap.size := (Array.getElem?_eq_some_iff.1 tb).1
  have hz2 : w.heap.size < w2.heap.size := by have := k2.le; omega
  have tb2 := (k2.block _ hz1).trans tb
  have tb2A := fun ob => (Below.heap_alloc w2 ob w.heap.size hz2).trans tb2
  have c0 : w2.cell? ⟨w.heap.size, 0, none⟩ = some (.int .i64 out) := by rw [cell_of_row _ _ 0 _ 24 (0, 0) tb2]; rfl
  have c1 : w2.cell? ⟨w.heap.size, 1, none⟩ = some (.slice a L.length cap) := by rw [cell_of_row _ _ 1 _ 24 (0, 0) tb2]; rfl
  have kA := fun ob => (Keep.refl w2).alloc ob
  have c0A := fun ob => (kA ob).cell c0
  have c1A := fun ob => (kA ob).cell c1
  gi_wp2_with (gi_at_make; refine wpListIn_makeI _ rfl _ _ rfl _ _ _ _ L.length rfl rfl rfl rfl hlen ?_)
  refine ⟨trivial, ?_⟩
  refine (callsIn_wide.2 (hO _ (k02.trans (kA _)))).mono ?_
  rintro e w3 ⟨vO, rfl, ownO, bO, k3⟩
  have R0 : RowI w3 w2.heap.size (dfold (shp L) L.length []).1 := by
    unfold RowI
    rw [k3.block _ (by simp)]
    exact heap_alloc_new w2 _
  have tb3 : w3.heap[w.heap.size]? = some (Obj.cells #[Value.int IntKind.i64 out, Value.slice a L.length cap] 24 (0, 0)) := (k3.block _ (by simp; omega)).trans (tb2A _)
  have k03 := k02.trans ((kA _).trans k3)
  have hz3 : w2.heap.size < w3.heap.size := R0.lt
  obtain ⟨aO, cO, rfl, hcO⟩ := ownO.shape
  have bO' : ∀ b, (Value.slice aO (ord (shp L) L.length).length cO).ownBlock = some b → w2.heap.size < b ∧ b < w3.heap.size := fun b hb => ⟨by have := bO b hb; simp at this; omega, own_lt ownO hb⟩
  have hlo := ord_len hR.wi
  have hlt := ord_lt hR.wi
  clear hS hO k0 k02 k2 k3 tb tb2 tb2A c0 c1 c0A c1A kA bO
  gi_wp2_with fail
  gi_loopw [7, 26] (fun bv iv wr => ∃ k R : Nat, k ≤ (ord (shp L) L.length).length ∧ iv = .int .i64 k ∧ bv = .int .i64 (R : Nat) ∧ R ≤ 2199023255552 ∧ Stp (fun g => g = w2.heap.size) w3 wr ∧ RowI wr w2.heap.size (dfold (shp L) L.length ((ord (shp L) L.length).take k)).1 ∧ Hid (LfM (shp L) ((ord (shp L) L.length).take k) R)) (fun _ iv _ => (ord (shp L) L.length).length - (intOf iv).toNat)
  case atStart => exact ⟨0, 0, by omega, rfl, rfl, by omega, ⟨rfl, rfl, rfl, Nat.le_refl _, fun _ _ _ => rfl⟩, R0, ⟨by simp, .inl rfl⟩⟩
  case round =>
    obtain ⟨k, R, hk, rfl, rfl, hRb, hst, hrow, hlm⟩ := hrel
    clear R0
    have kw : Keep w wr := ⟨hst.os.trans k03.os, hst.tape.trans k03.tape, hst.output.trans k03.output, by have := hst.size; have := k03.size; omega, fun g hg => (hst.block g (by omega) (by omega)).trans (k03.block g hg)⟩
    have tbr : wr.heap[w.heap.size]? = _ := (hst.block _ (by omega) (by omega)).trans tb3
    have ownR : OwnI wr (.slice aO (ord (shp L) L.length).length cO) (ord (shp L) L.length) := ownO.same (fun b hb => hst.block b (bO' b hb).2 (by have := (bO' b hb).1; omega))
    by_cases hkl : k < (ord (shp L) L.length).length
    · have hkc : (k : Int) < ((ord (shp L) L.length).length : Int) := by omega
      obtain ⟨g, c', hv, -, -, hcells⟩ := ownR.cells (by omega)
      simp only [Value.slice.injEq] at hv
      obtain ⟨rfl, -, -⟩ := hv
      have hci := hcells k hkl
      have hxm : (ord (shp L) L.length).getD k 0 ∈ ord (shp L) L.length := by simp [List.getD, hkl]
      have hxN := hlt _ hxm
      have hsp : ord (shp L) L.length = (ord (shp L) L.length).take k ++ (ord (shp L) L.length).getD k 0 :: (ord (shp L) L.length).drop (k + 1) := by
        rw [← drop_hd (ord (shp L) L.length) k 0 hkl]; simp
      have htk : (ord (shp L) L.length).take (k + 1) = (ord (shp L) L.length).take k ++ [(ord (shp L) L.length).getD k 0] := by rw [List.take_succ_eq_append_getElem hkl]; simp [List.getD, hkl]
      have hpar := ord_par hT _ _ _ hsp
      have hDI := DI.all hT _ _ hsp
      have hlv := hDI.x _ hxN hpar
      have hDb := (dfold_le (shp L) L.length ((ord (shp L) L.length).take k)).1 ((ord (shp L) L.length).getD k 0)
      have hDl : ((ord (shp L) L.length).take k).length ≤ L.length := by simp; omega
      replace htk : Hid _ := htk
      generalize (ord (shp L) L.length).getD k 0 = x at *
      generalize (ord (shp L) L.length).take k = p at *
      have hxc : (x : Int) < (L.length : Int) := by omega
      have cX := hrow.cell x (by rw [dfold_len]; exact hxN)
      obtain ⟨b, o, ca, cp, rfl, hnd⟩ := (hrd.keep kw) x hxN
      have t1 : wr.cell? ⟨w.heap.size, 1, none⟩ = some (.slice (some ⟨b, o, none⟩) L.length cap) := by rw [cell_of_row _ _ 1 _ 24 (0, 0) tbr]; rfl
      have c0 := hnd.c0
      have c1 := hnd.c1
      have c2 := hnd.c2
      have c3 := hnd.c3
      have c4 := hnd.c4
      have c5 := hnd.c5
      have c6 := hnd.c6
      have c7 := hnd.c7
      have hk1 := hR.kd1 hxN
      have hK : (shp L).K x = decide ((L.getD x nd0).kd = 2 ∨ (L.getD x nd0).kd = 3) := rfl
      rw [← hK] at hk1
      have hk2 : (((L.getD x nd0).kd : Int) != 1) = (shp L).K x := by rw [bne, hk1, Bool.not_not]
      generalize hD : (dfold (shp L) L.length p).1.getD x 0 = d at *
      have hdb : d ≤ 2199023255552 := by omega
      have hbk : ∀ ob, Stp (fun g => g = w2.heap.size) w3 (wr.alloc ob) := fun ob => by
        have kb : Keep wr (wr.alloc ob) := (Keep.refl wr).alloc _
        exact ⟨kb.os.trans hst.os, kb.tape.trans hst.tape, kb.output.trans hst.output, by have := kb.le; have := hst.size; omega, fun g hg hn => (kb.block g (by have := hst.size; omega)).trans (hst.block g hg hn)⟩
      have hrb : ∀ ob, RowI (wr.alloc ob) w2.heap.size (dfold (shp L) L.length p).1 := fun ob => by
        unfold RowI; rw [Below.heap_alloc _ _ _ hrow.lt]; exact hrow
      have hszr : w2.heap.size < wr.heap.size := hrow.lt
      by_cases hki : (shp L).K x = true
      · obtain ⟨⟨e6, l6, p6⟩, ⟨e7, l7, p7⟩⟩ := hR.kids hxN hki
        have hne := tr_ne hT hlv hki
        rw [e6] at c6
        rw [e7] at c7
        have HF : Hid ((dfold (shp L) L.length (p ++ [x])).1 = ((dfold (shp L) L.length p).1.set ((shp L).A x) (d + 1)).set ((shp L).B x) (d + 1)) := by
          show _ = _
          rw [dfold_app]; unfold dstep; rw [hki, hD]; rfl
        have HL : Hid (LfM (shp L) (p ++ [x]) R) := hlm.out.inner hki
        rw [hki] at hk1 hk2
        have lA : (shp L).A x < (dfold (shp L) L.length p).1.length := by rw [dfold_len]; exact l6
        have lB : (shp L).B x < ((dfold (shp L) L.length p).1.set ((shp L).A x) (d + 1)).length := by rw [List.length_set, dfold_len]; exact l7
        have lX : x < ((dfold (shp L) L.length p).1.set ((shp L).A x) (d + 1)).length := by rw [List.length_set, dfold_len]; exact hxN
        have hDx : ((dfold (shp L) L.length p).1.set ((shp L).A x) (d + 1)).getD x 0 = d := by rw [getD_set, if_neg (fun q => hne q.1)]; exact hD
        generalize (shp L).A x = ai at *
        generalize (shp L).B x = bi at *
        have hai : (ai : Int) < (L.length : Int) := by omega
        have hbi : (bi : Int) < (L.length : Int) := by omega
        clear hK hki hlm hnd e6 e7 hne hpar hDI hlv hcells hsp hxm
        generalize hXX : (dfold (shp L) L.length p).1 = XX at *
        clear hXX
        have hwr : IntKind.i64.wrap ((d : Int) + 1) = (d : Int) + 1 := wrap_small (by omega) (by omega)
        have cXr := hrow.cell x (by simpa using lX)
        rw [hD] at cXr
        clear hD hDb
        have cAr := hrow.cell ai lA
        have fAr := hrow.frozen ai
        have RA := hrow.set ai (d + 1)
        have cXA := RA.cell x lX
        rw [hDx] at cXA
        have cBA := RA.cell bi lB
        have fBA := RA.frozen bi
        have RB := RA.set bi (d + 1)
        have nA := fun v => neq_set wr w2.heap.size ai v
        have nB := fun v v' => neq_set (wr.setCell ⟨w2.heap.size, ai, none⟩ v) w2.heap.size bi v'
        push_cast at cXA cBA fBA RB
        have RB2 : ∀ ob, RowI (((wr.setCell ⟨w2.heap.size, ai, none⟩ (.int .i64 ((d : Int) + 1))).setCell ⟨w2.heap.size, bi, none⟩ (.int .i64 ((d : Int) + 1))).alloc ob) w2.heap.size ((XX.set ai (d + 1)).set bi (d + 1)) := fun ob => by
          unfold RowI; rw [Below.heap_alloc _ _ _ RB.lt]; exact RB
        have S2 : ∀ ob, Stp (fun g => g = w2.heap.size) w3 (((wr.setCell ⟨w2.heap.size, ai, none⟩ (.int .i64 ((d : Int) + 1))).setCell ⟨w2.heap.size, bi, none⟩ (.int .i64 ((d : Int) + 1))).alloc ob) := fun ob =>
          ⟨hst.os, hst.tape, hst.output, by have := hst.size; simp; omega, fun g hg hn => (Below.heap_alloc _ _ _ (by have := hst.size; simp; omega)).trans (((nB _ _ g hn).trans (nA _ g hn)).trans (hst.block g hg hn))⟩
        clear RA hrb hbk nA nB lA lB lX hDx RB
        generalize L.getD x nd0 = N at *
        gi_wp2_with fail
        rw [wpIn_wide]
        go_region_with fail
        all_goals
          go_simp
          gi_wp2_with fail
          rw [wpIn_wide]
          go_region_with fail
          all_goals
            go_simp
            gi_wp2_with fail
            go_roundw
            case rel => exact ⟨k + 1, R, by omega, by go_num, rfl, hRb, (S2 _).drew2, by rw [htk.out, HF.out]; exact RB2 _, by rw [htk.out]; exact HL⟩
            case measure => simp [intOf]; omega
      · have hkf : (shp L).K x = false := by simpa using hki
        have HF : Hid ((dfold (shp L) L.length (p ++ [x])).1 = (dfold (shp L) L.length p).1) := by
          show _ = _
          rw [dfold_app]; unfold dstep; rw [hkf]; rfl
        have HL := hlm.out.leaf hT hlv
        rw [hkf] at hk1 hk2
        have cXr := hrow.cell x (by rw [dfold_len]; exact hxN)
        rw [hD] at cXr
        have cXb := fun ob => ((Keep.refl wr).alloc ob).cell cXr
        clear hK hki hkf hlm hnd hpar hDI hlv hcells hsp hxm hst hrow hDb hD cX
        generalize L.getD x nd0 = N at *
        by_cases hrd2 : R < d
        · rw [if_pos hrd2] at HL
          replace HL : Hid _ := HL
          gi_wp2_with fail
          go_roundw
          case rel => exact ⟨k + 1, d, by omega, by go_num, rfl, hdb, hbk _, by rw [htk.out, HF.out]; exact hrb _, by rw [htk.out]; exact HL⟩
          case measure => simp [intOf]; omega
        · rw [if_neg hrd2] at HL
          replace HL : Hid _ := HL
          gi_wp2_with fail
          go_roundw
          case rel => exact ⟨k + 1, R, by omega, by go_num, rfl, hRb, hbk _, by rw [htk.out, HF.out]; exact hrb _, by rw [htk.out]; exact HL⟩
          case measure => simp [intOf]; omega
    · have hkc : ¬ (k : Int) < ((ord (shp L) L.length).length : Int) := by omega
      have hfin := hlm.out
      rw [List.take_of_length_le (by omega)] at hfin
      have HD : Hid (dep (shp L) L.length = R) := hfin.done hT
      clear hlm hfin
      gi_wp2_with fail
      go_ret2
      rw [HD.out]
      exact ⟨rfl, kw⟩
end Go.Proofs.Ytbchinfmdioijaa
