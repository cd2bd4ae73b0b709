import Derived.Test.YtmkanofeencgpaaDoorW2
set_option linter.unusedVariables false
set_option linter.unusedSimpArgs false
namespace Go.Proofs.YtmkanofeencgpaaDoor
open Go.RowKit Go.Shelf
/-- append([]T{}, l...). -/
theorem wpList_copyZe {wr : World} {ops : Array Oper} {rest : List Oper} {o : Oper} {a : Act} {Q : Exit → Act → World → Prop} (hgd : o.guard = none) (s x : Operand)
    (ho : o.op = .call { callee := .builtin .append, args := #[s, x], argTypes := #[23, 23] }) (l : List Int) (ad : Option Addr) (c : Nat) (g : Nat) (hg : wr.heap.size = g) (hs : a.eval s = .slice (some ⟨g, 0, none⟩) 0 0)
    (hx : a.eval x = .slice ad l.length c) (hr : RdI wr ad l) (hlen : l.length ≤ 17592186044416)
    (hK : ∀ v' w1, OwnZ 2 wr.heap.size w1 v' l → Keep wr w1 → wpList Tryd.prog ops Q rest (a.put o.dst v') w1) :
    wpList Tryd.prog ops Q (o :: rest) a (wr.alloc (.cells #[] 2)) := by
  subst hg
  obtain ⟨i0, hi, hz0, hz1, hz2⟩ := info_parts i2
  have hown : OwnZ 2 wr.heap.size (wr.alloc (.cells #[] 2)) (.slice (some ⟨wr.heap.size, 0, none⟩) 0 0) [] := ⟨rfl, .inr ⟨wr.heap.size, 0, #[], rfl, Nat.le_refl _, heap_alloc_new _ _, Nat.le_refl _, by simp [maxLen], rfl, rfl⟩⟩
  have hr' := hr.keep ((Keep.refl wr).alloc (.cells #[] 2))
  rcases ad with _ | ad
  · obtain rfl : l = [] := by
      by_cases h : l = []
      · exact h
      · obtain ⟨b, o, e, -⟩ := hr 0 (List.length_pos_iff.2 h); cases e
    refine wpList_plain hgd fun K hK' => ?_
    have hrun : (Builtin.append_ #[23, 23] o.type #[.slice (some ⟨wr.heap.size, 0, none⟩) 0 0, .slice none 0 c]).run Tryd.prog (wr.alloc (.cells #[] 2)) = .ok (.slice (some ⟨wr.heap.size, 0, none⟩) 0 0) (wr.alloc (.cells #[] 2)) := by
      go_simp
    unfold Oper.wp
    simp [execOp, ho, resolve, invoke, builtin, hs, hx, hrun, Result.andThen]
    exact hK' _ _ (hK _ _ hown ((Keep.refl wr).alloc _))
  refine wpList_append_own _ hgd s x 23 ho wr.heap.size 2 i0 (.int .i64 0) 1 8 Tryd.underlying23 hi hz0 hz1 hz2 rfl (by decide) _ _ _ hs hown ad l.length c (UZ l) hx (by simp [UZ]) ?_ (UZ_one l) ?_ ?_ (by simp) ?_
  · intro j u hj
    have hjl : j < l.length := by have := (List.getElem?_eq_some_iff.1 hj).1; simpa [UZ_length] using this
    rw [UZ_get l j hjl] at hj
    obtain ⟨b', o', e, hc⟩ := hr' j hjl
    simp only [Option.some.injEq] at e
    subst e
    rw [Addr.add_lit, hc, hj]
  · simp only [maxLen, List.length_nil]; omega
  · simp only [List.length_nil]; omega
  · intro v' w1 h1 h2 _
    refine hK v' w1 ?_ (Below.grown ((Keep.refl wr).alloc _) h2 (by simp) (fun k hk' => by cases hk'; exact Nat.le_refl _))
    unfold OwnZ
    simpa [UZ] using h1
/-- The sums' row, written. -/
theorem own_some {B : Nat} {w : World} {v : Value} {l : List Int} (h : OwnZ 2 B w v l) (hl : 1 ≤ l.length) : ∃ g c, v = .slice (some ⟨g, 0, none⟩) l.length c ∧ B ≤ g := by
  rcases h.2 with ⟨h1, h2⟩ | ⟨g, cap, cur, hv, hg, r⟩
  · omega
  · exact ⟨g, cap, hv, hg⟩
set_option maxRecDepth 100000 in
set_option maxHeartbeats 4000000 in
theorem law_wraps (nm : ByteArray) (fa : Option Addr) (fs : List ByteArray) (cf : Nat) (N : Int) (ba : Option Addr) (base : List Int) (cb : Nat) (ta : Option Addr) (ts : List (Int × List Nd)) (ct : Nat) (ax : Option Addr) (xs : List Nat) (cx : Nat) (w : World) (hA : EnA w nm fa fs ba base ta ts) (hcb : base.length ≤ cb) (hx : RdF w ax xs) (hxl : xs.length ≤ 17592186044416) :
    Calls Tryd.prog 6 #[.agg (ev nm fa fs.length cf N ba base.length cb ta ts.length ct), .slice ax xs.length cx] w fun e w' => e = .returned (.bool true) ∧ Keep w w' := by
  obtain ⟨w1, hw1, k1, t1, s1⟩ := boxed w (ev nm fa fs.length cf N ba base.length cb ta ts.length ct) 26
  obtain ⟨z0, z1, z2, z3, z4⟩ := cells5 t1
  have htl := hA.er.tl
  have hbl := hA.er.bl
  have hB := begins_any w1 (hA.tb.keep k1)
  have hV := fun wx (q : Keep w1 wx) => Valid_any nm fa fs cf N ba base cb ta ts ct wx ((hA.keep k1).keep q)
  by_cases hc : (chB nm fs N base ts).1 = 0
  · have hok := chB_ok hc
    rw [hok.1] at hV
    have hV' : ∀ wx, Keep w1 wx → Calls Tryd.prog 12 #[.agg (ev nm fa fs.length cf N ba base.length cb ta ts.length ct)] wx (fun e w' => e = .returned (.bool true) ∧ Keep wx w') := hV
    clear hV
    by_cases hxe : xs.length = fs.length
    · have hxc : ((xs.length : Int) != (fs.length : Int)) = false := by rw [bne, beq_iff_eq.2 (by omega)]; rfl
      have htr : ∀ i, i < ts.length → (trB (ts.getD i (0, [])).1 N (xs.length : Int) (ts.getD i (0, [])).2 (i : Int)).1 = 0 := by rw [hxe]; exact hok.2.2.2.2.2.1
      have hrm : ∀ o, o < base.length → rm base ts o < 4611686018427387904 := fun o ho => ouF_all _ _ hok.2.2.2.2.2.2 o (by omega) (by omega)
      have hsk := sk_le hok.2.2.1 htr hrm
      have hsc : scS fs.length N base ts xs = (sk xs base ts ts.length, 0) := by
        unfold scS
        rw [if_neg (by have := hok.2.1; have := hok.2.2.1; omega), if_neg (by omega)]
        have := scF_sk (base := base) htr ts.length 0 (by omega)
        rw [List.drop_zero] at this
        exact this
      have hS := fun wx (q : Keep w1 wx) => Score_any nm fa fs.length cf N ba base cb ta ts ct ax xs cx wx ((hA.er.rb.keep k1).keep q) hcb hA.er.bl ((hA.er.rt.keep k1).keep q) (by omega) ((hx.keep k1).keep q) hxl (by have := hA.fl; omega)
      rw [hsc] at hS
      unfold ens at hS
      have HN : Hid ((base.length : Int) = N ∧ 1 ≤ N) := ⟨hok.2.2.1, hok.2.1.1⟩
      replace hsk : Hid _ := hsk
      replace hrm : Hid _ := hrm
      replace htr : Hid _ := htr
      clear hok hc hxe hsc
      go_enter Tryd.func6, Tryd.ntmps6
      go_wp2_with (first
        | rw [hw1]
        | (go_at_call 19; refine hB.mono ?_; rintro e w2 ⟨rfl, k2⟩; obtain ⟨y0, y1, y2, y3, y4⟩ := cells5 (k2.at t1))
        | (go_at_call 12; refine (hV' w2 k2).mono ?_; rintro e w3 ⟨rfl, k3⟩; have k13 := k2.trans k3; have hlt3 : w.heap.size < w3.heap.size := lt_of_at (k13.at t1); obtain ⟨x0, x1, x2, x3, x4⟩ := cells5 (k13.at t1))
        | (at_builtin; refine wpList_copyZe rfl _ _ rfl base ba cb _ rfl ?_ ?_ ((hA.er.rb.keep k1).keep k13) hbl ?_; rotate_left 2; intro v4 w4 O4 k4))
      rotate_left 1
      · rfl
      · rfl
      have k14 := k13.trans k4
      obtain ⟨gs, cs, rfl, hgs⟩ := own_some O4 (by have := HN.out; omega)
      have hgs1 : Hid (w1.heap.size ≤ gs) := Nat.le_trans k13.le hgs
      clear z0 z1 z2 z3 z4 y0 y1 y2 y3 y4 x0 x1 x2 x3 x4
      have HO : Hid (OwnZ 2 w3.heap.size w4 (.slice (some ⟨gs, 0, none⟩) (sk xs base ts 0).length cs) (sk xs base ts 0)) := O4
      have HSL : Hid (∀ k, (sk xs base ts k).length = base.length) := sk_len xs base ts
      clear O4
      go_loopw [6] (fun i wr => ∃ k : Nat, i = .int .i64 (k : Int) ∧ k ≤ ts.length ∧ Hid (OwnZ 2 w3.heap.size wr (.slice (some ⟨gs, 0, none⟩) (sk xs base ts k).length cs) (sk xs base ts k)) ∧ Keep w1 wr) (fun i wr => ts.length - (intOf i).toNat)
      case atStart => exact ⟨0, rfl, by omega, HO, k14⟩
      case round =>
        clear HO
        obtain ⟨k, rfl, hk, HO, kr⟩ := hrel
        obtain ⟨z0, z1, z2, z3, z4⟩ := cells5 (kr.at t1)
        by_cases hlt : k < ts.length
        · have hltc : (k : Int) < (ts.length : Int) := by omega
          have hl := hA.er.tn k hlt
          have ht := htr.out k hlt
          obtain ⟨q, hq, hqb⟩ : ∃ q : Nat, (ts.getD k (0, [])).1 = (q : Int) ∧ q < base.length := by
            have h1 := (trB_ok ht).1
            have h2 := HN.out
            exact ⟨(ts.getD k (0, [])).1.toNat, by omega, by omega⟩
          have hv := lfV_eq ht
          have hvb := lf_le (xs := xs) (trB_ok ht).2.2.1
          rw [← hv.2.1] at hvb
          have hp1 := pk_le base ts q (k + 1) (by omega)
          rw [pk, if_pos hq] at hp1
          have hp2 := hrm.out q hqb
          have hp3 := hsk.out k (by omega) q hqb
          have hnx : sk xs base ts (k + 1) = (sk xs base ts k).set q (wrap64 ((sk xs base ts k).getD q 0 + lfV (ts.getD k (0, [])).2 xs)) := by rw [sk, hq]; rfl
          obtain ⟨b, p, na, nc, rfl, y0, y1, hrn, hcp⟩ := ((hA.er.rt.keep k1).keep kr) k hlt
          have HK : Hid (k < ts.length) := hlt
          clear hlt hcp ht
          rw [hq] at y0
          generalize (ts.getD k (0, [])).2 = L at y1 hrn hl hv hvb hnx hp1
          have hLf := Leaf_any na ax nc cx (q : Int) L xs (by omega) hxl wr hrn ((hx.keep k1).keep kr)
          rw [hv.1] at hLf
          generalize lfV L xs = vv at hLf hvb hnx
          generalize (lfK L xs : Nat) = vk at hLf
          have hqs : q < (sk xs base ts k).length := by rw [HSL.out]; exact hqb
          have hgb : (sk xs base ts k).getD q 0 + vv = wrap64 ((sk xs base ts k).getD q 0 + vv) := (IntWalk.wrap64_in _ (by omega)).symm
          have HX : Hid (sk xs base ts (k + 1) = (sk xs base ts k).set q ((sk xs base ts k).getD q 0 + vv)) := by unfold Hid; rw [hnx, ← hgb]
          obtain ⟨va, vc, ev0, hvc, hvr⟩ := HO.out.shape
          obtain ⟨b', o', eb, cq⟩ := hvr q hqs
          simp only [Value.slice.injEq] at ev0
          obtain ⟨rfl, -, rfl⟩ := ev0
          simp only [Option.some.injEq, Addr.mk.injEq, and_true] at eb
          obtain ⟨rfl, rfl⟩ := eb
          rw [Nat.zero_add] at cq
          have hwr : IntKind.i64.wrap ((sk xs base ts k).getD q 0 + vv) = (sk xs base ts k).getD q 0 + vv := by rw [IntWalk.i64_left]; exact hgb.symm
          have HOL := HO.out
          rw [HSL.out] at HOL
          replace HOL : Hid _ := HOL
          have hqi : (q : Int) < (base.length : Int) := by omega
          have d1 : decide ((4611686018427387904 : Int) ≤ vv) = false := decide_eq_false (by omega)
          have d2 : decide (vv ≤ (-4611686018427387904 : Int)) = false := decide_eq_false (by omega)
          have d3 : decide ((4611686018427387904 : Int) ≤ (sk xs base ts k).getD q 0 + vv) = false := decide_eq_false (by omega)
          have d4 : decide ((sk xs base ts k).getD q 0 + vv ≤ (-4611686018427387904 : Int)) = false := decide_eq_false (by omega)
          have hqs2 : Hid (q < (sk xs base ts k).length) := hqs
          clear hvr hnx hgb hp1 hp2 hp3 hvb hv hqs
          generalize (sk xs base ts k).getD q 0 = sq at cq hwr d3 d4 HX
          go_wp2_with (first
            | (go_at_call 22; refine hLf.mono ?_; rintro e w5 ⟨rfl, k5⟩
               have HO5 := HO.out.keep k5
               obtain ⟨O6, fz⟩ := HO5.set q hqs2.out (sq + vv)
               have cq5 := k5.cell cq
               have y05 := k5.cell y0
               have y15 := k5.cell y1
               obtain ⟨n0, n1, n2, n3, n4⟩ := cells5 ((kr.trans k5).at t1)
               have hgl : gs < w5.heap.size := World.block_lt_of_cell? w5 _ cq5))
          go_roundw
          case rel =>
            refine ⟨k + 1, by go_num, by have := HK.out; omega, ?_, (kr.trans k5).setCell (p := ⟨gs, q, none⟩) hgs1.out _⟩
            unfold Hid
            rw [HX.out, List.length_set]
            exact O6
          case measure => have := HK.out; simp [intOf]; omega
        · have hltc : ¬ (k : Int) < (ts.length : Int) := by omega
          obtain rfl : k = ts.length := by omega
          have hSw := hS wr kr
          have HL := HSL.out ts.length
          have HO6 := HO.out
          clear HSL hsk hlt hS htr hrm
          generalize sk xs base ts ts.length = S at hSw HO6 HL
          rw [← HL]
          replace HL : Hid _ := HL
          go_wp2_with (first
            | (go_at_call 21; refine hSw.mono ?_; rintro e w6 ⟨v6, rfl, O7, k6⟩
               obtain ⟨va, vc, rfl, hvc, hvr⟩ := O7.shape
               have HO7 := HO6.keep k6))
          obtain ⟨ua, uc, eu, huc, hur⟩ := HO7.shape
          simp only [Value.slice.injEq] at eu
          obtain ⟨rfl, -, rfl⟩ := eu
          have hSl : S.length ≤ 17592186044416 := by rw [HL.out]; exact hbl
          go_loopw [13] (fun i wz => ∃ j : Nat, i = .int .i64 (j : Int) ∧ j ≤ S.length ∧ Keep w6 wz) (fun i wz => S.length - (intOf i).toNat)
          case atStart => exact ⟨0, rfl, by omega, Keep.refl _⟩
          case round =>
            obtain ⟨j, rfl, hj, kz⟩ := hrel
            by_cases hjl : j < S.length
            · have hjc : (j : Int) < (S.length : Int) := by omega
              obtain ⟨b1, o1, rfl, p1⟩ := (hvr.keep kz) j hjl
              obtain ⟨b2, o2, eb2, p2⟩ := (hur.keep kz) j hjl
              simp only [Option.some.injEq, Addr.mk.injEq, and_true] at eb2
              obtain ⟨rfl, rfl⟩ := eb2
              have HJ : Hid (j < S.length) := hjl
              clear hjl
              generalize S.getD j 0 = sj at p1 p2
              rw [Nat.zero_add] at p2
              have hss : (sj != sj) = false := by simp
              go_wp2_with fail
              go_quiet (fail)
              go_wp2_with fail
              go_roundw
              case rel => exact ⟨j + 1, by go_num, by have := HJ.out; omega, kz.drewN _⟩
              case measure => have := HJ.out; simp [intOf]; omega
            · have hjc : ¬ (j : Int) < (S.length : Int) := by omega
              clear hjl
              go_wp2_with fail
              go_ret
              exact ⟨rfl, k1.trans (kr.trans (k6.trans kz))⟩
    · have hxc : ((xs.length : Int) != (fs.length : Int)) = true := by rw [bne, beq_eq_false_iff_ne.2 (by omega)]; rfl
      clear hxe hok hc
      go_enter Tryd.func6, Tryd.ntmps6
      go_wp2_with (first
        | rw [hw1]
        | (go_at_call 19; refine hB.mono ?_; rintro e w2 ⟨rfl, k2⟩; obtain ⟨y0, y1, y2, y3, y4⟩ := cells5 (k2.at t1))
        | (go_at_call 12; refine (hV' w2 k2).mono ?_; rintro e w3 ⟨rfl, k3⟩; have k13 := k2.trans k3; obtain ⟨x0, x1, x2, x3, x4⟩ := cells5 (k13.at t1)))
      go_ret
      exact ⟨rfl, k1.trans k13⟩
  · generalize chB nm fs N base ts = B at hV hc
    obtain ⟨e0, e1, e2⟩ := B
    have hV' : ∀ wx, Keep w1 wx → Calls Tryd.prog 12 #[.agg (ev nm fa fs.length cf N ba base.length cb ta ts.length ct)] wx (fun e w' => e = .returned (.bool false) ∧ Keep wx w') := by
      have : ((e0, e1, e2).1 == (0 : Int)) = false := by rw [beq_eq_false_iff_ne]; exact hc
      rw [this] at hV; exact hV
    clear hc hV
    go_enter Tryd.func6, Tryd.ntmps6
    go_wp2_with (first
      | rw [hw1]
      | (go_at_call 19; refine hB.mono ?_; rintro e w2 ⟨rfl, k2⟩; obtain ⟨y0, y1, y2, y3, y4⟩ := cells5 (k2.at t1))
      | (go_at_call 12; refine (hV' w2 k2).mono ?_; rintro e w3 ⟨rfl, k3⟩; have k13 := k2.trans k3))
    go_ret
    exact ⟨rfl, k1.trans k13⟩
end Go.Proofs.YtmkanofeencgpaaDoor
