import Derived.Test.YtkfljmfkjcfkgaaDoorM28
set_option linter.unusedVariables false
set_option linter.unusedSimpArgs false
namespace Go.Proofs.YtkfljmfkjcfkgaaDoor
open Go.RowKit Go.Shelf
set_option maxRecDepth 100000 in
set_option maxHeartbeats 1000000 in
theorem law_order (a ax ao : Option Addr) (cap cx co : Nat) (out : Int) (L : List Nd) (xs : List Nat) (ks : List Int) (hLn : L.length ≤ 2199023255552) (hxl : xs.length ≤ 17592186044416) (hkl : ks.length ≤ 17592186044416) (hkb : ∀ x ∈ ks, -9223372036854775808 ≤ x ∧ x ≤ 9223372036854775807) (w : World) (hTab : Bi.Tab w) (hrd : RdN w a L) (hxd : RdF w ax xs) (hkd : RdI w ao ks) :
    Calls Tryd.prog 6 #[.agg #[.int .i64 out, .slice a L.length cap], .slice ax xs.length cx, .slice ao ks.length co] w fun e w' => e = .returned (.bool true) ∧ Keep w w' := by
  obtain ⟨w1, hw1, k1, tb⟩ : ∃ w1, w.alloc (Obj.cells #[Value.int IntKind.i64 out, Value.slice a L.length cap] 24) = w1 ∧ Keep w w1 ∧ w1.heap[w.heap.size]? = some (Obj.cells #[Value.int IntKind.i64 out, Value.slice a L.length cap] 24 (0, 0)) := ⟨_, rfl, (Keep.refl w).alloc _, heap_alloc_new w _⟩
  have x0 := cell_of_row _ _ 0 _ 24 (0, 0) tb
  have x1 := cell_of_row _ _ 1 _ 24 (0, 0) tb
  simp only [List.getElem?_toArray, List.getElem?_cons_zero, List.getElem?_cons_succ] at x0 x1
  have y0 : Hid _ := x0
  have y1 : Hid _ := x1
  have hV := lives_any w1 (Bi.Tab.keep hTab k1)
  replace hw1 : Hid _ := hw1
  replace hkb : Hid _ := hkb
  go_enter Tryd.func6, Tryd.ntmps6
  go_wp2_with fail
  rw [hw1.out]
  refine hV.mono ?_
  rintro e w2 ⟨rfl, k2⟩
  have k02 := k1.trans k2
  have x0 := k2.cell x0
  have x1 := k2.cell x1
  have hX := Reach_any a ax cap cx out L xs hLn hxl w2 (hrd.keep k02) (hxd.keep k02)
  clear hV
  go_wp2_with fail
  refine hX.mono ?_
  rintro e w3 ⟨v3, rfl, h1, h2, k3⟩
  have k03 := k02.trans k3
  have x0 := k3.cell x0
  have x1 := k3.cell x1
  have hF := False_any a ax cap cx out L xs hLn hxl w3 (hrd.keep k03) (hxd.keep k03)
  replace h1 : Hid _ := h1
  replace h2 : Hid _ := h2
  clear hX
  go_wp2_with fail
  refine hF.mono ?_
  rintro e w4 ⟨v4, fl, rfl, hO4, g1, g2, k4⟩
  have k04 := k03.trans k4
  have x0 := k4.cell x0
  have x1 := k4.cell x1
  obtain ⟨a4, c4, rfl, -, -⟩ := hO4.shape
  clear hF
  by_cases hG : lvG L xs.length = 0
  · have cG : (lvG L xs.length != 0) = false := by rw [bne_eq_false_iff_eq]; exact hG
    obtain ⟨hE, hlk⟩ := lvG_ok hG
    obtain ⟨hS, hR, hT, b, hb, hlv, hn⟩ := lvE_ok hE
    have hln : (lvs L).length = b.nl := by rw [hlv, b.lv_len]
    obtain ⟨la, ga, rfl, hga, hra, hma⟩ := h2.out b hG hb
    have hfl := g2 b hG hb
    obtain ⟨e1, e2, e3⟩ := ext_left hR hT xs hb
    have hwy : wyE L xs.length = 0 := by unfold wyE; rw [if_pos hS, if_neg (by simpa using hlk)]
    obtain ⟨f1, -⟩ := lf_ext xs hwy hT hb
    rw [← f1] at e1 e2 e3
    have hA := Leaves_any a cap out L hLn w4 (hrd.keep k04)
    replace hra := Bi.Row.keep hra k4
    rw [← hfl] at e2 e3 hma
    have hfm : ∀ x ∈ fl, x ∈ b.mks 0 := by rw [hfl]; intro x hx; exact (List.mem_filter.1 hx).1
    have hflen : fl.length ≤ 4096 := by
      rw [hfl]
      have h1 : (flm L xs (b.mks 0)).length ≤ (b.mks 0).length := List.length_filter_le _ _
      have := b.mks_len 0
      omega
    obtain ⟨nf, hnf⟩ : ∃ nf, fl.length = nf := ⟨_, rfl⟩
    rw [hnf] at hO4 hflen ⊢
    replace hnf : Hid _ := hnf
    have cS : (shE L != 0) = false := by rw [bne_eq_false_iff_eq]; exact hS
    have cW : (wyE L xs.length == 0) = true := by rw [hwy]; rfl
    replace hG : Hid _ := hG
    replace hE : Hid _ := hE
    replace hS : Hid _ := hS
    replace hlk : Hid _ := hlk
    replace hlv : Hid _ := hlv
    replace hwy : Hid _ := hwy
    replace f1 : Hid _ := f1
    replace hfl : Hid _ := hfl
    replace e1 : Hid _ := e1
    replace e2 : Hid _ := e2
    replace e3 : Hid _ := e3
    replace hma : Hid _ := hma
    replace hra : Hid _ := hra
    replace hfm : Hid _ := hfm
    have hOb : ∀ y, (Value.slice a4 nf c4).ownBlock = some y → y < w4.heap.size := fun y hy => by
      obtain ⟨_, cur, hh⟩ := own_block hO4 hy
      exact (Array.getElem?_eq_some_iff.1 hh).1
    replace hOb : Hid _ := hOb
    replace hO4 : Hid _ := hO4
    clear h1 g1 g2 h2
    go_wp2_with fail
    refine hA.mono ?_
    rintro e w5 ⟨v5, rfl, h5, -, k5⟩
    obtain ⟨a5, c5, rfl, -⟩ := OwnI.shape h5
    have k05 := k04.trans k5
    have x0 := k5.cell x0
    have x1 := k5.cell x1
    have hB := Bi.Full_ok b.nl w5 (by omega)
    rw [hln]
    replace hln : Hid _ := hln
    clear hA h5
    go_wp2_with fail
    refine hB.mono ?_
    rintro e w6 ⟨lb, rfl, hrb, hmb, k6⟩
    have k6 : Keep _ _ := k6
    have k06 := k05.trans k6
    have x0 := k6.cell x0
    have x1 := k6.cell x1
    have hra6 := Bi.Row.keep hra.out (k5.trans k6)
    have hO6 := own_keep hO4.out (k5.trans k6)
    have hg5 : w5.heap.size < w6.heap.size := hrb.lt
    have hgab : ga ≠ w5.heap.size := by
      have h1 := Bi.Row.lt hra.out
      have h2 := k5.le
      omega
    obtain ⟨gB, hgB⟩ : ∃ gB, w5.heap.size = gB := ⟨_, rfl⟩
    have hB4 : w4.heap.size ≤ gB := by rw [← hgB]; exact k5.le
    have k16 : Keep w1 w6 := k2.trans (k3.trans (k4.trans (k5.trans k6)))
    have hB1 : w1.heap.size ≤ gB := by have := (k2.trans (k3.trans k4)).le; omega
    rw [hgB] at hrb hgab ⊢
    obtain ⟨q, hq⟩ : ∃ q, (b.nl + 63) / 64 = q := ⟨_, rfl⟩
    have hqb : q ≤ 65 := by omega
    have hlq : lb.length = q := by rw [hmb.1]; exact hq
    have hla : la.length = q := by rw [hma.out.1]; exact hq
    rw [hlq]
    replace hq : Hid _ := hq
    replace hgB : Hid _ := hgB
    replace hla : Hid _ := hla
    replace hlq : Hid _ := hlq
    replace hg5 : Hid _ := hg5
    clear hB
    go_wp2_with fail
    have I0 : ∃ S lb, (∀ x ∈ S, x ∈ fl) ∧ Bi.Row w6 gB lb ∧ Bi.mkl b.nl (lftF S) lb ∧ Bi.Row w6 ga la ∧ OwnM w3.heap.size w6 (.slice a4 nf c4) fl ∧ Keep w1 w6 := ⟨[], lb, fun _ h => absurd h List.not_mem_nil, hrb, hmb, hra6, hO6, k16⟩
    replace I0 : Hid _ := I0
    clear hrb hmb hra6 hO6 x0 x1 hra hO4
    go_loopw [67] (fun iv wr => ∃ (j : Nat), j ≤ ks.length ∧ iv = .int .i64 j ∧ ∃ S lb, (∀ x ∈ S, x ∈ fl) ∧ Bi.Row wr gB lb ∧ Bi.mkl b.nl (lftF S) lb ∧ Bi.Row wr ga la ∧ OwnM w3.heap.size wr (.slice a4 nf c4) fl ∧ Keep w1 wr) (fun iv _ => ks.length - (intOf iv).toNat)
    case atStart => exact ⟨0, by omega, rfl, I0.out⟩
    case round =>
      clear I0
      obtain ⟨j, hj, rfl, S, lb, hS, hr, hmk, hra, hO, kw⟩ := hrel
      by_cases hjl : j < ks.length
      · have hjc : (j : Int) < (ks.length : Int) := by omega
        obtain ⟨bk, ok, hae, d0⟩ := (hkd.keep (k1.trans kw)) j hjl
        subst hae
        by_cases hfz : nf = 0
        · have cz : ¬ (0 : Int) < (nf : Int) := by omega
          have cz' : ¬ 0 < nf := by omega
          have I1 : ∃ S lb, (∀ x ∈ S, x ∈ fl) ∧ Bi.Row wr gB lb ∧ Bi.mkl b.nl (lftF S) lb ∧ Bi.Row wr ga la ∧ OwnM w3.heap.size wr (.slice a4 nf c4) fl ∧ Keep w1 wr := ⟨S, lb, hS, hr, hmk, hra, hO, kw⟩
          replace I1 : Hid _ := I1
          replace hfz : Hid _ := hfz
          clear hr hmk hra hO hS
          go_wp2_with fail
          exact ⟨⟨j + 1, by omega, by go_num, I1.out⟩, by simp [intOf]; omega⟩
        · have cz : (0 : Int) < (nf : Int) := by omega
          have cz' : 0 < nf := by omega
          obtain ⟨k, hk⟩ : ∃ k, ks.getD j 0 = k := ⟨_, rfl⟩
          rw [hk] at d0
          obtain ⟨i, hi, hil⟩ : ∃ i : Nat, wrap64 ((IntKind.u64.wrap k).tmod (nf : Int)) = (i : Int) ∧ i < nf := by
            rw [IntKind.wrap_u64]
            obtain ⟨K, hK⟩ : ∃ K : Nat, k % 18446744073709551616 = (K : Int) := ⟨(k % 18446744073709551616).toNat, by omega⟩
            rw [hK, show ((K : Int).tmod (nf : Int)) = ((K % nf : Nat) : Int) by rw [Int.tmod_eq_emod_of_nonneg (by omega)]; rfl]
            have h1 : K % nf < nf := Nat.mod_lt _ cz'
            generalize K % nf = i at *
            exact ⟨i, by rw [wrap64]; omega, h1⟩
          have hilf : i < fl.length := by rw [hnf.out]; exact hil
          obtain ⟨a', c', e', -, hrm⟩ := hO.shape
          simp only [Value.slice.injEq] at e'
          obtain ⟨rfl, -, rfl⟩ := e'
          obtain ⟨b1, o1, hae, q0, q1, q2⟩ := hrm i hilf
          have hmem : fl.getD i m0 ∈ fl := by
            rw [List.getD_eq_getElem?_getD, List.getElem?_eq_getElem hilf]
            exact List.getElem_mem hilf
          have hin := b.mks_in 0 _ (hfm.out _ hmem)
          obtain ⟨m, hm⟩ : ∃ m, fl.getD i m0 = m := ⟨_, rfl⟩
          rw [hm] at q0 q1 q2 hin hmem
          obtain ⟨mi, mf, mt⟩ := m
          simp only at q0 q1 q2 hin
          subst hae
          have hib : (i : Int) < (nf : Int) := by omega
          have hCm := fun wx => Bi.Mask_ok b.nl mf mt wx (by omega) (by omega) (by omega)
          clear hrm
          replace hm : Hid _ := hm
          replace hin : Hid _ := hin
          replace hmem : Hid _ := hmem
          replace hilf : Hid _ := hilf
          replace hk : Hid _ := hk
          replace hr : Hid _ := hr
          replace hmk : Hid _ := hmk
          replace hra : Hid _ := hra
          replace hO : Hid _ := hO
          replace hS : Hid _ := hS
          go_wp2_with fail
          refine (hCm _).mono ?_
          rintro e w7 ⟨m, rfl, hrow7, hmk7, k7⟩
          have kx : Keep wr (wr.alloc (Obj.cells #[.int .i64 (mi : Nat), .int .i64 (mf : Nat), .int .i64 (mt : Nat)] 52)) := (Keep.refl wr).alloc _
          have k7 : Keep _ _ := k7
          have kw7 := kx.trans k7
          rw [World.size_alloc] at hrow7
          have hr7 := Bi.Row.keep hr.out kw7
          have hbq : lb.length = q := by rw [hmk.out.1]; exact hq.out
          have hmq : m.length = q := by rw [hmk7.1]; exact hq.out
          have hgne : wr.heap.size + 1 ≠ gB := by
            have h1 := Bi.Row.lt hr.out
            omega
          have hMt := Bi.Meet_row gB (wr.heap.size + 1) q q lb m w7 hr7 hrow7 hgne (by omega) (by omega) hmk.out.2.1 hmk7.2.1
          rw [hbq] at hMt
          rw [hmq]
          replace hbq : Hid _ := hbq
          replace hmq : Hid _ := hmq
          replace hmk7 : Hid _ := hmk7
          replace hrow7 : Hid _ := hrow7
          replace hr7 : Hid _ := hr7
          clear hCm
          go_wp2_with fail
          refine hMt.mono ?_
          rintro e w8 ⟨rfl, hr8, m8⟩
          have hmk8 : Bi.mkl b.nl (lftF (S ++ [(mi, mf, mt)])) (Bi.zw (fun x y => x &&& y) lb m) := by rw [lftF_snoc]; exact Bi.mkl_and hmk.out hmk7.out
          have I1 : ∃ S lb, (∀ x ∈ S, x ∈ fl) ∧ Bi.Row w8 gB lb ∧ Bi.mkl b.nl (lftF S) lb ∧ Bi.Row w8 ga la ∧ OwnM w3.heap.size w8 (.slice (some ⟨b1, o1, none⟩) nf c4) fl ∧ Keep w1 w8 :=
            ⟨S ++ [(mi, mf, mt)], _, fun x hx => by
              rcases List.mem_append.1 hx with hx | hx
              · exact hS.out x hx
              · rw [List.mem_singleton.1 hx]; exact hmem.out, hr8, hmk8, Bi.Row.mut (Bi.Row.keep hra.out kw7) m8 hgab, own_same (own_keep hO.out kw7) (fun y hy => m8.block y (by have := hOb.out y hy; omega)), keep_mut (kw.trans kw7) m8 hB1⟩
          replace I1 : Hid _ := I1
          clear hr8 hmk8 hMt
          go_wp2_with fail
          exact ⟨⟨j + 1, by omega, by go_num, I1.out⟩, by simp [intOf]; omega⟩
      · have hjc : ¬ (j : Int) < (ks.length : Int) := by omega
        have I2 : ∃ lb, Bi.Row wr gB lb ∧ Bi.mkl b.nl (lftF (S ++ (fl.drop nf).reverse)) lb ∧ Bi.Row wr ga la ∧ OwnM w3.heap.size wr (.slice a4 nf c4) fl ∧ Keep w1 wr := ⟨lb, hr, by rw [← hnf.out, List.drop_length, List.reverse_nil, List.append_nil]; exact hmk, hra, hO, kw⟩
        replace I2 : Hid _ := I2
        replace hS : Hid _ := hS
        clear hr hmk hra hO kw
        go_wp2_with fail
        go_loopw [19] (fun iv wr => ∃ (j : Nat), j ≤ nf ∧ iv = .int .i64 ((j : Int) - 1) ∧ ∃ lb, Bi.Row wr gB lb ∧ Bi.mkl b.nl (lftF (S ++ (fl.drop j).reverse)) lb ∧ Bi.Row wr ga la ∧ OwnM w3.heap.size wr (.slice a4 nf c4) fl ∧ Keep w1 wr) (fun iv _ => (intOf iv + 1).toNat)
        case atStart => exact ⟨nf, by omega, rfl, I2.out⟩
        case round =>
          clear I2
          obtain ⟨j2, hj2, rfl, lb, hr, hmk, hra, hO, kw⟩ := hrel
          by_cases hjz : j2 = 0
          · subst hjz
            rw [List.drop_zero, lftF_all hS.out] at hmk
            obtain rfl : la = lb := Bi.mkl_eq hma.out hmk
            replace hr : Hid _ := hr
            replace hmk : Hid _ := hmk
            replace hra : Hid _ := hra
            have x0 := kw.cell y0.out
            have x1 := kw.cell y1.out
            have k0r := k1.trans kw
            have hLf := Leaf_any a ax cap cx out L xs hLn hxl wr (hrd.keep k0r) (hxd.keep k0r)
            have hz : ((0 : Nat) : Int) - 1 = -1 := by omega
            rw [hz]
            have hlaq := hla.out
            rw [hlaq]
            clear hO hlaq
            go_wp2_with fail
            refine hLf.mono ?_
            rintro e w7 ⟨rfl, k7⟩
            have hrb7 : Bi.Rd w7 (some ⟨gB, 0, none⟩) la := fun j hj => ⟨gB, 0, rfl, by rw [Nat.zero_add]; exact (Bi.Row.keep hr.out k7).cell j hj⟩
            have hra7 : Bi.Rd w7 (some ⟨ga, 0, none⟩) la := fun j hj => ⟨ga, 0, rfl, by rw [Nat.zero_add]; exact (Bi.Row.keep hra.out k7).cell j hj⟩
            have hSm := Bi.Same_any (some ⟨ga, 0, none⟩) (some ⟨gB, 0, none⟩) q q la w7 (by rw [hla.out]; omega) hra7 hrb7
            rw [hla.out] at hSm
            clear hLf
            go_wp2_with fail
            refine hSm.mono ?_
            rintro e w8 ⟨rfl, k8⟩
            have k8 : Keep _ _ := k8
            have hra8 : Bi.Rd w8 (some ⟨ga, 0, none⟩) la := fun j hj => ⟨ga, 0, rfl, by rw [Nat.zero_add]; exact (Bi.Row.keep hra.out (k7.trans k8)).cell j hj⟩
            have hHs := Bi.Has_any (some ⟨ga, 0, none⟩) q la (lfK L xs : Int) w8 (by rw [hla.out]; omega) (by have := e1.out; omega) hra8 hma.out.2.1
            have hRk := Bi.Rank_any (some ⟨ga, 0, none⟩) q la (lfK L xs : Int) w8 (by rw [hla.out]; omega) (by rw [hla.out]; omega) (by have := e1.out; omega) hra8 hma.out.2.1
            rw [hla.out, has_ext hma.out e1.out e2.out] at hHs
            rw [hla.out, rank_ext hma.out e3.out] at hRk
            clear hSm
            go_wp2_with fail
            refine hHs.mono ?_
            rintro e w9 ⟨rfl, rfl⟩
            go_wp2_with fail
            refine hRk.mono ?_
            rintro e w10 ⟨rfl, k10⟩
            have k10 : Keep _ _ := k10
            go_wp2_with fail
            go_ret
            exact ⟨rfl, k0r.trans (k7.trans (k8.trans k10))⟩
          · obtain ⟨i, rfl⟩ : ∃ i, j2 = i + 1 := ⟨j2 - 1, by omega⟩
            have hil : i < nf := by omega
            rw [show ((i + 1 : Nat) : Int) - 1 = (i : Int) by omega]
            have hge : ¬ (i : Int) < 0 := by omega
            have hge2 : (0 : Int) ≤ (i : Int) := by omega
            have hilf : i < fl.length := by rw [hnf.out]; exact hil
            have hdr := drop_rev fl i hilf m0
            obtain ⟨a', c', e', -, hrm⟩ := hO.shape
            simp only [Value.slice.injEq] at e'
            obtain ⟨rfl, -, rfl⟩ := e'
            obtain ⟨b1, o1, hae, q0, q1, q2⟩ := hrm i hilf
            have hmem : fl.getD i m0 ∈ fl := by
              rw [List.getD_eq_getElem?_getD, List.getElem?_eq_getElem hilf]
              exact List.getElem_mem hilf
            have hin := b.mks_in 0 _ (hfm.out _ hmem)
            obtain ⟨m, hm⟩ : ∃ m, fl.getD i m0 = m := ⟨_, rfl⟩
            rw [hm] at q0 q1 q2 hin hmem hdr
            obtain ⟨mi, mf, mt⟩ := m
            simp only at q0 q1 q2 hin
            subst hae
            have hib : (i : Int) < (nf : Int) := by omega
            have hCm := fun wx => Bi.Mask_ok b.nl mf mt wx (by omega) (by omega) (by omega)
            clear hrm
            replace hm : Hid _ := hm
            replace hin : Hid _ := hin
            replace hmem : Hid _ := hmem
            replace hilf : Hid _ := hilf
            replace hdr : Hid _ := hdr
            replace hr : Hid _ := hr
            replace hmk : Hid _ := hmk
            replace hra : Hid _ := hra
            replace hO : Hid _ := hO
            go_wp2_with fail
            go_region_with (go_at_call 28; refine (hCm _).mono ?_; rintro e w7 ⟨m, rfl, hrow7, hmk7, k7⟩)
            all_goals
              have k7 : Keep _ _ := k7
              have kw7 : Keep wr w7 := by first | exact k7 | exact ((Keep.refl wr).drew).trans k7 | exact ((Keep.refl wr).drewN _).trans k7
              have hr7 := Bi.Row.keep hr.out kw7
              have hbq : lb.length = q := by rw [hmk.out.1]; exact hq.out
              have hmq : m.length = q := by rw [hmk7.1]; exact hq.out
              have hgne : wr.heap.size ≠ gB := by
                have h1 := Bi.Row.lt hr.out
                omega
              have hrow7 : Bi.Row w7 wr.heap.size m := hrow7
              have hMt := Bi.Meet_row gB wr.heap.size q q lb m w7 hr7 hrow7 hgne (by omega) (by omega) hmk.out.2.1 hmk7.2.1
              rw [hbq] at hMt
              rw [hmq]
              replace hbq : Hid _ := hbq
              replace hmq : Hid _ := hmq
              replace hmk7 : Hid _ := hmk7
              replace hrow7 : Hid _ := hrow7
              replace hr7 : Hid _ := hr7
              clear hCm
              go_simp
              go_wp2_with fail
              refine hMt.mono ?_
              rintro e w8 ⟨rfl, hr8, m8⟩
              have hmk8 : Bi.mkl b.nl (lftF (S ++ (fl.drop i).reverse)) (Bi.zw (fun x y => x &&& y) lb m) := by rw [hdr.out, ← List.append_assoc, lftF_snoc]; exact Bi.mkl_and hmk.out hmk7.out
              have I1 : ∃ lb, Bi.Row w8 gB lb ∧ Bi.mkl b.nl (lftF (S ++ (fl.drop i).reverse)) lb ∧ Bi.Row w8 ga la ∧ OwnM w3.heap.size w8 (.slice (some ⟨b1, o1, none⟩) nf c4) fl ∧ Keep w1 w8 :=
                ⟨_, hr8, hmk8, Bi.Row.mut (Bi.Row.keep hra.out kw7) m8 hgab, own_same (own_keep hO.out kw7) (fun y hy => m8.block y (by have := hOb.out y hy; omega)), keep_mut (kw.trans kw7) m8 hB1⟩
              replace I1 : Hid _ := I1
              clear hr8 hmk8 hMt
              go_wp2_with fail
              exact ⟨⟨i, by omega, by go_num, I1.out⟩, by simp [intOf]⟩
  · have cG : (lvG L xs.length != 0) = true := by rw [bne_iff_ne]; exact hG
    replace hG : Hid _ := hG
    clear h1 h2 g1 g2
    go_wp2_with fail
    go_ret
    exact ⟨by simp, k04⟩
end Go.Proofs.YtkfljmfkjcfkgaaDoor
