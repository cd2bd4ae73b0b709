import Derived.Test.YtcdcheecaphmgaaDoorM37
set_option linter.unusedVariables false
set_option linter.unusedSimpArgs false
namespace Go.Proofs.YtcdcheecaphmgaaDoor
open Go.RowKit Go.Shelf
attribute [local go_sem] run_store_float
set_option maxRecDepth 100000 in
set_option maxHeartbeats 1000000 in
theorem under_any (a : Option Addr) (c r : Nat) (L : List Nd) (hLn : L.length ≤ 1759218604441) (hR : Rgt L) {b : BT} (hb : Bt (shp L) b r) (hnd : b.pre.Nodup) (hin : ∀ k ∈ b.pre, k < L.length) (w : World) (ha : RdN w a L) :
    Calls Tryd.prog 33 #[.slice a L.length c, .int .i64 (r : Nat)] w fun e w' => ∃ av cv l f, e = .returned (.slice av (l : List Nat).length cv) ∧ RdN w' av (unL L l f) ∧ l.Perm b.pre ∧ Plc l f ∧ f r = 0 ∧ Keep w w' := by
  have hpl : b.pre.length ≤ L.length := nodup_len hnd hin
  go_enter Tryd.func33, Tryd.ntmps33
  go_wp2_with fail
  have I0 : UIt (shp L) b r w 0 [r] (.slice (some ⟨w.heap.size, 0, none⟩) 1 1) (w.alloc (Obj.cells #[Value.int IntKind.i64 (r : Nat)] 3)) := by
    refine ⟨⟨rfl, .inr ⟨w.heap.size, 1, #[Value.int IntKind.i64 (r : Nat)], rfl, by omega, heap_alloc_new w _, by simp, by decide, by simp, rfl⟩⟩, ?_, Bf.start hb, rfl, (Keep.refl w).alloc _⟩
    intro y hy
    have hy : some w.heap.size = some y := hy
    cases hy
    exact Nat.le_refl _
  go_loopw [5, 6] (fun v iv wr => ∃ (i : Nat) (l : List Nat), iv = .int .i64 i ∧ UIt (shp L) b r w i l v wr) (fun _ iv _ => b.pre.length - (intOf iv).toNat)
  case atStart => exact ⟨0, [r], rfl, I0⟩
  case round =>
    obtain ⟨i, l, rfl, I⟩ := hrel
    clear I0
    have hlb := I.bf.le
    have hil0 := I.bf.1
    by_cases hil : i < l.length
    · have hic : (i : Int) < (l.length : Int) := by omega
      obtain ⟨gw, cw, hv, hcw, hgw, hcells⟩ := I.own.cells (by omega)
      have hci := hcells i hil
      have hpm : l.getD i 0 ∈ b.pre := I.bf.mem _ (by rw [List.getD_eq_getElem?_getD, List.getElem?_eq_getElem hil]; exact List.getElem_mem hil)
      have hpL := hin _ hpm
      have hmove := fun (W : World) (k : Keep wr W) (hK : (shp L).K (l.getD i 0) = false) => I.move hil hK k
      have hgrow := fun (v' : Value) (W w' : World) (k : Keep wr W) (hK : (shp L).K (l.getD i 0) = true) => I.grow (v' := v') (w' := w') hil hK k
      have hown := I.own
      obtain ⟨p, hp⟩ : ∃ p, l.getD i 0 = p := ⟨_, rfl⟩
      rw [hp] at hci hpL hmove hgrow
      obtain ⟨bb, o, ca, cp, hae, hnd2⟩ := (ha.keep I.kp) p hpL
      subst hae
      subst hv
      have hkids := fun hK => hR.kids hpL hK
      have hkd : (shp L).K p = !decide ((L.getD p nd0).kd = 1) := by
        have hr2 := hR.2 p hpL
        unfold rightB at hr2
        simp only [shp]
        by_cases h1 : (L.getD p nd0).kd = 1
        · rw [h1]; rfl
        · rw [if_neg h1] at hr2
          by_cases h2 : (L.getD p nd0).kd = 2
          · rw [h2]; rfl
          · rw [if_neg h2] at hr2
            by_cases h3 : (L.getD p nd0).kd = 3
            · rw [h3]; rfl
            · rw [if_neg h3] at hr2; cases hr2
      obtain ⟨N, hN⟩ : ∃ N, L.getD p nd0 = N := ⟨_, rfl⟩
      rw [hN] at hnd2 hkd hkids
      have c0 := hnd2.c0
      have c1 := hnd2.c1
      have c2 := hnd2.c2
      have c3 := hnd2.c3
      have c4 := hnd2.c4
      have c5 := hnd2.c5
      have c6 := hnd2.c6
      have c7 := hnd2.c7
      have hpc : (p : Int) < (L.length : Int) := by omega
      have kb : ∀ o2 : Obj, Keep wr (wr.alloc o2) := fun o2 => (Keep.refl wr).alloc o2
      replace hN : Hid _ := hN
      replace hp : Hid _ := hp
      replace hpm : Hid _ := hpm
      replace hkids : Hid _ := hkids
      replace hmove : Hid _ := hmove
      replace hgrow : Hid _ := hgrow
      replace hown : Hid _ := hown
      clear hnd2 hcells I
      by_cases hk1 : N.kd = 1
      · have ck : ((N.kd : Int) != 1) = false := by rw [hk1]; rfl
        have hKf : (shp L).K p = false := by rw [hkd, hk1]; rfl
        replace hkd : Hid _ := hkd
        replace hk1 : Hid _ := hk1
        go_wp2_with fail
        exact ⟨⟨i + 1, l, by go_num, hmove.out _ (kb _) hKf⟩, by simp [intOf]; omega⟩
      · have ck : ((N.kd : Int) != 1) = true := by rw [bne_iff_ne]; omega
        have hKt : (shp L).K p = true := by rw [hkd, decide_eq_false hk1]; rfl
        obtain ⟨⟨e1, -, -⟩, e2, -, -⟩ := hkids.out hKt
        rw [e1] at c6
        rw [e2] at c7
        replace hkd : Hid _ := hkd
        replace hk1 : Hid _ := hk1
        have hlen2 : l.length + [(shp L).A p, (shp L).B p].length ≤ 17592186044416 := by simp; omega
        have hgr := fun v' W w' k => hgrow.out v' W w' k hKt
        replace hgr : Hid _ := hgr
        generalize hA : (shp L).A p = A at *
        generalize hB : (shp L).B p = B at *
        clear hA hB
        go_wp2_with (at_builtin; refine wpList_appI2 _ rfl _ _ rfl l [A, B] _ rfl (own_keep hown.out (((Keep.refl wr).alloc _).alloc _)) _ _ _ rfl rfl (Nat.succ_pos _) (news2I _ _ (World.size_alloc _ _) A B) hlen2 ?_; intro v7 w7 o7 g7 s7)
        exact ⟨⟨i + 1, _, by go_num, hgr.out _ _ _ (((Keep.refl wr).alloc _).alloc _) o7 g7 s7⟩, by simp [intOf]; omega⟩
    · have hic : ¬ (i : Int) < (l.length : Int) := by omega
      obtain rfl : i = l.length := by omega
      have hperm := I.bf.done
      have hnl : l.Nodup := hperm.nodup_iff.2 hnd
      have hinl : ∀ x ∈ l, x < L.length := fun x hx => hin x (hperm.mem_iff.1 hx)
      have hl0 : 0 < l.length := by rw [hperm.length_eq]; exact List.length_pos_of_mem hb.topM
      obtain ⟨gw, cw, hv, hcw, hgw, hcells⟩ := I.own.cells hl0
      subst hv
      have kw := I.kp
      have hhd := I.hd
      have hLn2 : L.length ≤ 17592186044416 := by omega
      obtain ⟨w2, hw2⟩ : ∃ w2, w2 = wr := ⟨_, rfl⟩
      subst hw2
      replace hperm : Hid _ := hperm
      replace hcells : Hid _ := hcells
      replace hhd : Hid _ := hhd
      clear I
      go_wp2_with (refine wpList_makeI2 _ rfl _ _ rfl .i64 .i64 _ _ L.length rfl rfl rfl rfl hLn2 ?_; intro w3 r3 k3 s3)
      go_loopw [45] (fun i wr => ∃ k : Nat, k ≤ l.length ∧ i = .int .i64 k ∧ Keep w2 wr ∧ RowI wr w2.heap.size (plF l L.length k)) (fun i _ => l.length - (intOf i).toNat)
      case atStart => exact ⟨0, by omega, rfl, k3, r3⟩
      case round =>
        obtain ⟨k, hk, rfl, kr, rr⟩ := hrel
        by_cases hkl : k < l.length
        · have hkc : (k : Int) < (l.length : Int) := by omega
          have c1 := kr.cell (hcells.out k hkl)
          have hpL : l.getD k 0 < L.length := hinl _ (by rw [List.getD_eq_getElem?_getD, List.getElem?_eq_getElem hkl]; exact List.getElem_mem hkl)
          have c2 := rr.cell (l.getD k 0) (by rw [plF_len]; exact hpL)
          have fz := frozen_of_row wr w2.heap.size (l.getD k 0) _ 3 rr
          have HS : Hid (RowI (wr.setCell ⟨w2.heap.size, l.getD k 0, none⟩ (.int .i64 (k : Nat))) w2.heap.size (plF l L.length (k + 1))) := by
            show RowI _ _ _
            rw [plF_succ]; exact rr.set _ _
          generalize l.getD k 0 = p at *
          have hpc : (p : Int) < (L.length : Int) := by omega
          go_wp2_with fail
          go_roundw
          case rel => exact ⟨k + 1, by omega, by go_num, kr.setCell (by simp) _, HS.out⟩
          case measure => simp [intOf]; omega
        · have hkc : ¬ (k : Int) < (l.length : Int) := by omega
          obtain rfl : k = l.length := by omega
          obtain ⟨w4, hw4⟩ : ∃ w4, w4 = wr := ⟨_, rfl⟩
          subst hw4
          obtain ⟨f, hf⟩ : ∃ f : Nat → Nat, f = fun i => (plF l L.length l.length).getD i 0 := ⟨_, rfl⟩
          have HF : Hid (∀ i, (plF l L.length l.length).getD i 0 = f i) := fun i => by rw [hf]
          have hplc : Plc l f := fun k hk => by rw [hf]; exact plF_get hnl hinl l.length (Nat.le_refl _) k hk
          have hpc : Hid (∀ q, q < L.length → w4.cell? ⟨w2.heap.size, q, none⟩ = some (.int .i64 (f q : Nat))) := fun q hq => by rw [← HF.out]; exact rr.cell q (by rw [plF_len]; exact hq)
          have hfb : ∀ i, f i ≤ 9223372036854775807 := fun i => by have := plF_le l L.length l.length i; rw [HF.out] at this; omega
          have hfr : f r = 0 := by have := hplc 0 hl0; rw [hhd.out] at this; exact this
          have kw4 := kw.trans kr
          have hor : Hid (∀ j, j < l.length → w4.cell? ⟨gw, j, none⟩ = some (.int .i64 (l.getD j 0 : Nat))) := fun j hj => kr.cell (hcells.out j hj)
          replace hplc : Hid _ := hplc
          replace hfr : Hid _ := hfr
          clear hf rr hcells
          go_wp2_with fail
          go_loopw [11, 57] (fun v i wr => ∃ (k : Nat) (K : List (Nd × Option Addr × Nat)), k ≤ l.length ∧ i = .int .i64 k ∧ UOt L l f w w4 k K v wr) (fun _ i _ => l.length - (intOf i).toNat)
          case atStart => exact ⟨0, [], by omega, rfl, ⟨OwnN.nil _ _, rfl, Keep.refl _, fun j hj => by omega⟩⟩
          case round =>
            obtain ⟨k, K, hk, rfl, hI⟩ := hrel
            by_cases hkl : k < l.length
            · have hkc : (k : Int) < (l.length : Int) := by omega
              have c9 := hI.kp.cell (hor.out k hkl)
              have hpL : l.getD k 0 < L.length := hinl _ (by rw [List.getD_eq_getElem?_getD, List.getElem?_eq_getElem hkl]; exact List.getElem_mem hkl)
              have hnext := fun (W w7 : World) (v7 : Value) (N : Nd) (ca : Option Addr) (cp : Nat) (kW : Keep wr W) => hI.next (w7 := w7) (v7 := v7) (N := N) (ca := ca) (cp := cp) kW
              have hKl : K.length + 1 ≤ 1759218604441 := by rw [hI.kl]; omega
              have hB := hI.kp.le
              have hown := hI.own
              have kb4 := hI.kp
              obtain ⟨p, hp⟩ : ∃ p, l.getD k 0 = p := ⟨_, rfl⟩
              rw [hp] at c9 hpL hnext
              obtain ⟨bb, o, ca, cp, hae, hnd2⟩ := (ha.keep (kw4.trans hI.kp)) p hpL
              have hnd0 := ha p hpL
              obtain ⟨bb0, o0, ca0, cp0, hae0, hnd0⟩ := hnd0
              rw [hae] at hae0
              simp only [Option.some.injEq, Addr.mk.injEq, and_true] at hae0
              obtain ⟨rfl, rfl⟩ := hae0
              have hca : ca0 = ca ∧ cp0 = cp := by
                have e4 := (kw4.trans hI.kp).cell hnd0.c4
                rw [hnd2.c4] at e4
                simp only [Option.some.injEq, Value.slice.injEq] at e4
                exact ⟨e4.1.symm, e4.2.2.symm⟩
              obtain ⟨rfl, rfl⟩ := hca
              have hkids := fun hK => hR.kids hpL hK
              have hr2 := hR.2 p hpL
              have hrd0 := hnd0.rd
              have hcp0 := hnd0.cp
              subst hae
              obtain ⟨N, hN⟩ : ∃ N, L.getD p nd0 = N := ⟨_, rfl⟩
              rw [hN] at hnd2 hnext hrd0 hcp0 hr2
              have c0 := hnd2.c0
              have c1 := hnd2.c1
              have c2 := hnd2.c2
              have c3 := hnd2.c3
              have c4 := hnd2.c4
              have c5 := hnd2.c5
              have c6 := hnd2.c6
              have c7 := hnd2.c7
              have hpc2 : (p : Int) < (L.length : Int) := by omega
              have HN : Hid (L.getD p nd0 = N) := hN
              replace hp : Hid _ := hp
              replace hnext : Hid _ := hnext
              replace hrd0 : Hid _ := hrd0
              replace hcp0 : Hid _ := hcp0
              replace hown : Hid _ := hown
              replace hkids : Hid _ := hkids
              clear hnd2 hnd0 hI hN
              by_cases hk1 : N.kd = 1
              · have ck : ((N.kd : Int) != 1) = false := by rw [hk1]; rfl
                have HU : Hid (N = unN f N) := by show _ = _; unfold unN; rw [if_pos hk1]
                replace hk1 : Hid _ := hk1
                clear hr2
                go_wp2_with (at_builtin; refine wpList_appN w4.heap.size _ rfl _ _ rfl K (N, ca0, cp0) _ rfl (own_keep hown.out (((Keep.refl wr).alloc _).alloc _)) (Nat.le_trans hB (((Keep.refl wr).alloc _).alloc _).le) _ _ rfl (newsN _ _ (World.size_alloc _ _) N ca0 cp0) hKl ?_; intro v7 w7 o7 g7 s7)
                go_roundw
                case rel => exact ⟨k + 1, _, by omega, by go_num, hnext.out _ w7 v7 N ca0 cp0 (((Keep.refl wr).alloc _).alloc _) HU.out hrd0.out hcp0.out o7 g7⟩
                case measure => simp [intOf]; omega
              · have ck : ((N.kd : Int) != 1) = true := by rw [bne_iff_ne]; omega
                have hKt : (shp L).K p = true := by
                  simp only [shp]
                  rw [HN.out]
                  unfold rightB at hr2
                  rw [if_neg hk1] at hr2
                  by_cases h2 : N.kd = 2
                  · rw [h2]; rfl
                  · rw [if_neg h2] at hr2
                    by_cases h3 : N.kd = 3
                    · rw [h3]; rfl
                    · rw [if_neg h3] at hr2; cases hr2
                obtain ⟨⟨e1, e1a, e1b⟩, e2, e2a, e2b⟩ := hkids.out hKt
                rw [HN.out] at e1 e2
                have HU : Hid (unN f N = { N with lf := (f ((shp L).A p) : Nat), rt := (f ((shp L).B p) : Nat) }) := by
                  show _ = _
                  unfold unN
                  rw [if_neg hk1, e1, e2]
                  simp
                rw [e1] at c6
                rw [e2] at c7
                have q1 := kb4.cell (hpc.out _ e1a)
                have q2 := kb4.cell (hpc.out _ e2a)
                have z2 : w2.heap.size < wr.heap.size := World.block_lt_of_cell? _ _ q1
                generalize hA : (shp L).A p = A at *
                generalize hB2 : (shp L).B p = B at *
                have hAc : (A : Int) < (L.length : Int) := by omega
                have hBc : (B : Int) < (L.length : Int) := by omega
                generalize f A = fA at *
                generalize f B = fB at *
                replace hk1 : Hid _ := hk1
                clear hr2 hA hB2 e1 e2
                have kk : Keep wr ((wr.alloc (Obj.cells #[Value.int .u8 N.kd, Value.int .i64 N.vl, Value.int .i64 N.ft, Value.float .f64 N.th, Value.slice ca0 N.cs.length cp0, Value.int .u8 N.ms, Value.int .i64 (fA : Nat), Value.int .i64 (fB : Nat)] 63)).alloc (Obj.cells #[Value.int .u8 N.kd, Value.int .i64 N.vl, Value.int .i64 N.ft, Value.float .f64 N.th, Value.slice ca0 N.cs.length cp0, Value.int .u8 N.ms, Value.int .i64 (fA : Nat), Value.int .i64 (fB : Nat)] 63)).drew := (((Keep.refl wr).alloc _).alloc _).drew
                have how8 := own_keep hown.out kk
                have hle8 := Nat.le_trans hB kk.le
                have hnw8 : ∀ j u, (UN [({ N with lf := (fA : Nat), rt := (fB : Nat) }, ca0, cp0)])[j]? = some u → ((wr.alloc (Obj.cells #[Value.int .u8 N.kd, Value.int .i64 N.vl, Value.int .i64 N.ft, Value.float .f64 N.th, Value.slice ca0 N.cs.length cp0, Value.int .u8 N.ms, Value.int .i64 (fA : Nat), Value.int .i64 (fB : Nat)] 63)).alloc (Obj.cells #[Value.int .u8 N.kd, Value.int .i64 N.vl, Value.int .i64 N.ft, Value.float .f64 N.th, Value.slice ca0 N.cs.length cp0, Value.int .u8 N.ms, Value.int .i64 (fA : Nat), Value.int .i64 (fB : Nat)] 63)).drew.cell? ((⟨wr.heap.size + 1, 0, none⟩ : Addr).add j) = some u := newsN (wr.alloc (Obj.cells #[Value.int .u8 N.kd, Value.int .i64 N.vl, Value.int .i64 N.ft, Value.float .f64 N.th, Value.slice ca0 N.cs.length cp0, Value.int .u8 N.ms, Value.int .i64 (fA : Nat), Value.int .i64 (fB : Nat)] 63)) _ (World.size_alloc _ _) { N with lf := (fA : Nat), rt := (fB : Nat) } ca0 cp0
                replace how8 : Hid _ := how8
                replace hnw8 : Hid _ := hnw8
                go_wp2_with fail
                go_region
                go_simp
                go_wp2_with (at_builtin; refine wpList_appN w4.heap.size _ rfl _ _ rfl K ({ N with lf := (fA : Nat), rt := (fB : Nat) }, ca0, cp0) _ rfl how8.out hle8 _ _ rfl hnw8.out hKl ?_; intro v7 w7 o7 g7 s7)
                go_roundw
                case rel => exact ⟨k + 1, _, by omega, by go_num, hnext.out _ w7 v7 _ ca0 cp0 kk HU.out.symm hrd0.out hcp0.out o7 g7⟩
                case measure => simp [intOf]; omega
            · have hkc : ¬ (k : Int) < (l.length : Int) := by omega
              obtain rfl : k = l.length := by omega
              obtain ⟨av, cv, rfl, -, hrd⟩ := hI.rd (kw4.trans hI.kp) ha hinl hfb
              have kf := kw4.trans hI.kp
              replace hI : Hid _ := hI
              replace hrd : Hid _ := hrd
              go_wp2_with fail
              go_ret
              exact ⟨av, cv, l, rfl, f, hrd.out, hperm.out, hplc.out, hfr.out, kf⟩
end Go.Proofs.YtcdcheecaphmgaaDoor
