import Derived.Test.YtaogjiffnebnkaaFD
import Derived.Deep.RegionHeld3
import Derived.Deep.QuietTactic
import Derived.BigQuiet
set_option linter.unusedVariables false
set_option linter.unusedSimpArgs false
namespace Go.Proofs.Ytaogjiffnebnkaa
open Go.RowKit Go.Shelf Go.Maps
attribute [local go_sem] run_store_float
theorem cnt_step {c q i r m : Nat} (h : c + (q - i) + r = m) (hi : i < q) : c + 1 + (q - (i + 1)) + r = m ∧ c < m := by omega
theorem mk6 {a0 a1 a2 a3 a4 a5 : Prop} (h0 : a0) (h1 : a1) (h2 : a2) (h3 : a3) (h4 : a4) (h5 : a5) : a0 ∧ a1 ∧ a2 ∧ a3 ∧ a4 ∧ a5 := ⟨h0, h1, h2, h3, h4, h5⟩
theorem getD_lt {xs : List Nat} (h : ∀ x ∈ xs, x < 18446744073709551616) (i : Nat) : xs.getD i 0 < 18446744073709551616 := by
  by_cases q : i < xs.length
  · have : xs.getD i 0 = xs[i] := by simp [List.getD, q]
    rw [this]; exact h _ (List.getElem_mem q)
  · have : xs.getD i 0 = 0 := by simp [List.getD, List.getElem?_eq_none (by omega : xs.length ≤ i)]
    rw [this]; decide
set_option maxRecDepth 100000 in
set_option maxHeartbeats 4000000 in
theorem law_false (a ax : Option Addr) (cap cx : Nat) (ts : List (Int × List Nd)) (xs : List Nat) (w : World) (ht : RdT w a ts) (hxd : RdF w ax xs) (htl : ts.length ≤ 4398046511104) (hxl : xs.length ≤ 17592186044416) (hxf : ∀ x ∈ xs, x < 18446744073709551616) :
    Calls Try.prog 5 #[.slice a ts.length cap, .slice ax xs.length cx] w fun e w' => e = .returned (.bool true) ∧ Keep w w' := by
  obtain ⟨n, hn⟩ : ∃ n, ts.length = n := ⟨_, rfl⟩
  obtain ⟨X, hX⟩ : ∃ X, xs.length = X := ⟨_, rfl⟩
  have hB := begins_any w
  have hO := fun (wx : World) (kx : Keep w wx) => Of_rd a cap ts n hn (X : Nat) wx (RdT.keep ht kx)
  have HN : Hid (ts.length = n ∧ n ≤ 4398046511104 ∧ xs.length = X ∧ X ≤ 17592186044416) := ⟨hn, by omega, hX, by omega⟩
  rw [hn, hX]
  obtain ⟨E, hE⟩ : ∃ E, ofE ts (X : Nat) = E := ⟨_, rfl⟩
  rw [hE] at hO
  replace hO : Hid _ := hO
  have HE : Hid (ofE ts (X : Nat) = E) := hE
  replace hxf : Hid (∀ i, xs.getD i 0 < 18446744073709551616) := getD_lt hxf
  replace ht : Hid (RdT w a ts) := ht
  replace hxd : Hid (RdF w ax xs) := hxd
  clear hn hX htl hxl hE
  go_enter Try.func5, Try.ntmps5
  go_upto_region 4 with (first
    | (go_at_call 25; refine hB.mono ?_; rintro e v1 ⟨rfl, k1⟩; clear hB)
    | (go_at_call 10; refine (hO.out v1 k1).mono ?_; rintro e v2 ⟨aT, cT, T, rfl, k2, rT, bT, hT0, hT1⟩; clear hO; have kv2 := Keep.trans k1 k2))
  have kW : Hid (Keep w v2) := kv2
  clear k1 k2 kv2
  by_cases hE0 : E = 0
  · have hI := hT1 hE0
    have hsm := ofE_small (HE.out.trans hE0)
    have htr : ∀ j, j < ts.length → trE (ts.getD j (0, [])).2 = 0 := fun j hj => tkE_tr (hsm.2 j hj)
    have hgl := gall_len hsm.2 ts.length (Nat.le_refl _)
    rw [List.take_length] at hgl
    have hbnd : (gall ts).length ≤ 268435456 := by
      have h1 := hsm.1
      omega
    have hGO := gall_gok ht.out htr
    have hft := gall_ft hsm.2
    have hperm : Hid (((allF xs T).map ck).Perm (rem xs ts 0)) := allF_perm hI hGO hxf.out
    have hFl : Hid ((allF xs T).length ≤ 268435456) := by
      show _ ≤ _
      have h1 := hperm.out.length_eq
      rw [List.length_map] at h1
      have h2 := rem_len xs (ts := ts)
      omega
    have hls : Hid (∀ t ∈ T, t.ns.length ≤ 268435456 ∧ t.cs.length ≤ 268435456 ∧ t.ls.length ≤ 268435456 ∧ 0 ≤ t.ft ∧ t.ft < (X : Nat)) := by
      intro t ht9
      obtain ⟨-, h1⟩ := hI.ns_ok (R := fun _ => True) (fun _ _ => trivial) ht9
      have h2 := hI.cs t ht9
      have h3 := hI.ls t ht9
      have h4 : ∀ j, (sel (gall ts) t.ft j).length ≤ (gall ts).length := by
        intro j; unfold sel; rw [List.length_map]; exact List.length_filter_le _ _
      obtain ⟨s, hs, e⟩ := (hI.mem t.ft).2 ⟨t, ht9, rfl⟩
      obtain ⟨f1, f2⟩ := hft s hs
      have h5 := h4 1
      have h6 := h4 2
      rw [← h2] at h5
      rw [← h3] at h6
      exact ⟨by omega, by omega, by omega, by omega, by omega⟩
    have hlv : Hid (∀ j, j < ts.length → Mk.lvG ((ts.getD j (0, [])).2.map Nd.m) X = 0) := fun j hj => lvG_zero (hsm.2 j hj)
    replace htr : Hid _ := htr
    subst hE0
    clear hT0 hT1 hsm hgl hbnd hGO hft hI
    replace bT : Hid _ := bT
    go_wp2_with fail
    have hC0 : OwnC v2.heap.size v2 (.slice none 0 0) [] := OwnC.nil _ _
    replace hC0 : Hid _ := hC0
    go_loopw [7, 8] (fun cv iv wr => ∃ (i : Nat) (K : List CI), iv = .int .i64 (i : Int) ∧ i ≤ T.length ∧ OwnC v2.heap.size wr cv K ∧ Hid (K.map (fun r => r.1) = allF xs (T.take i)) ∧ Keep v2 wr) (fun _ iv _ => T.length - (intOf iv).toNat)
    case atStart => exact ⟨0, [], rfl, Nat.zero_le _, hC0.out, rfl, Keep.refl _⟩
    case round =>
      obtain ⟨i, K, rfl, hi, hC, hK, kw⟩ := hrel
      clear hC0
      by_cases hil : i < T.length
      · have hic : (i : Int) < (T.length : Int) := by omega
        obtain ⟨b1, o1, na1, nc1, ca1, cc1, la1, lc1, rfl, c0, c1, c2, c3, q1, q2, q3, -, -, -, p1, -, -⟩ := rT i hil
        have hmem : T.getD i lst0 ∈ T := by
          have : T.getD i lst0 = T[i] := by simp [List.getD, hil]
          rw [this]; exact List.getElem_mem _
        obtain ⟨l1, l2, l3, f0, f1⟩ := hls.out _ hmem
        have HS : Hid (allF xs (T.take (i + 1)) = allF xs (T.take i) ++ fls (T.getD i lst0).ns (T.getD i lst0).cs (T.getD i lst0).ls (xs.getD (T.getD i lst0).ft.toNat 0)) := allF_snoc hil
        have hle := allF_le (xs := xs) (T := T) (i + 1)
        generalize T.getD i lst0 = t at *
        obtain ⟨f, tn, tc, tl⟩ := t
        simp only at c0 c1 c2 c3 q1 q2 q3 l1 l2 l3 f0 f1 p1
        simp only at HS
        obtain ⟨fn, hfn⟩ : ∃ fn : Nat, f = fn := ⟨f.toNat, by omega⟩
        subst hfn
        rw [Int.toNat_natCast] at HS
        have hfX : fn < xs.length := by have := HN.out; omega
        obtain ⟨bx, ox, rfl, hxc⟩ := hxd.out fn hfX
        obtain ⟨x, hx⟩ : ∃ x, xs.getD fn 0 = x := ⟨_, rfl⟩
        rw [hx] at hxc HS
        have hFl1 := fun (wx : World) (kx : Keep v2 wx) => False_big (fn : Int) na1 tn nc1 ca1 tc cc1 la1 tl lc1 x wx l1 l2 l3 p1 (RdC.keep q1 kx) (RdC.keep q2 kx) (RdC.keep q3 kx)
        unfold lst at hFl1
        have hKl : Hid (K.length + (fls tn tc tl x).length ≤ 268435456) := by
          show _ ≤ _
          have h1 := congrArg List.length hK.out
          rw [List.length_map] at h1
          have h2 := congrArg List.length HS.out
          rw [List.length_append] at h2
          have h3 := hFl.out
          omega
        have x4 := kW.out.cell hxc
        have K0 := Keep.drew kw
        have hfc : ((fn : Int) < 0) = False := by simp
        have hfc2 : decide ((fn : Int) < 0) = false := decide_eq_false (by omega)
        have hfc3 : ¬ ((X : Int) ≤ (fn : Int)) := by omega
        have hfc4 : decide ((X : Int) ≤ (fn : Int)) = false := decide_eq_false hfc3
        have hfx5 : (fn : Int) < (X : Int) := by omega
        have d0 := kw.cell c0
        replace hil : Hid (i < T.length) := hil
        clear hle hi hmem hx l1 l2 l3 p1 f0
        go_upto_region 13 with fail
        have T0 := mk6 K0 (K0.cell c0) (K0.cell c1) (K0.cell c2) (K0.cell c3) (K0.cell x4)
        have hwB := kw.le
        replace hC : Hid (OwnC v2.heap.size wr u7 K) := hC
        replace hFl1 : Hid _ := hFl1
        go_region_held3 (fun wx => Keep v2 wx ∧ wx.cell? ⟨b1, o1 + i * 4, none⟩ = some (Value.int .i64 (fn : Int)) ∧ wx.cell? ⟨b1, o1 + i * 4 + 1, none⟩ = some (Value.slice na1 tn.length nc1) ∧ wx.cell? ⟨b1, o1 + i * 4 + 2, none⟩ = some (Value.slice ca1 tc.length cc1) ∧ wx.cell? ⟨b1, o1 + i * 4 + 3, none⟩ = some (Value.slice la1 tl.length lc1) ∧ wx.cell? ⟨bx, ox + fn, none⟩ = some (Value.float .f64 x)) (first | with_reducible exact T2 | with_reducible exact T1 | with_reducible exact T0) (first
          | (go_at_call 20; refine (hFl1.out _ K0).mono ?_; rintro e w5 ⟨v5, rfl, K5, o5⟩; have K1 := Keep.trans K0 (OC.kp o5); have T1 := mk6 K1 (K1.cell c0) (K1.cell c1) (K1.cell c2) (K1.cell c3) (K1.cell x4); obtain ⟨a5, c5, rfl, s5⟩ := OC.src o5; have hK5 : K.length + K5.length ≤ 1099511627776 := by rw [OC.len o5]; exact Nat.le_trans hKl.out (by decide))
          | (refine step_appCsW v2.heap.size (by rfl) _ _ rfl K K5 u7 rfl (OwnC.keep hC.out (Keep.trans (Keep.drew (Keep.refl wr)) (OC.kp o5))) (Nat.le_trans hwB (Keep.le (Keep.trans (Keep.drew (Keep.refl wr)) (OC.kp o5)))) a5 K5.length c5 rfl rfl s5 hK5 ?_; intro v6 w6 hO6 g6; have K2 : Keep v2 w6 := Below.grown K1 g6 K1.le (fun b hb => (OwnC.block hC.out hb).1); have T2 := mk6 K2 (K2.cell c0) (K2.cell c1) (K2.cell c2) (K2.cell c3) (K2.cell x4)))
        clear T0 T1 T2 hFl1
        go_simp
        go_wp2_with fail
        have hb := bT.out
        have hl2 := hil.out
        rw [wrap_up4 hb hl2]
        exact ⟨⟨i + 1, K ++ K5, rfl, hl2, hO6, by show _ = _; rw [List.map_append, hK.out, OC.eq o5, HS.out], K2⟩, by show T.length - (((i + 1 : Nat) : Int)).toNat < T.length - ((i : Int)).toNat; omega⟩
      · have hic : ¬ (i : Int) < (T.length : Int) := by omega
        have hiE : i = T.length := by omega
        rw [hiE, List.take_length] at hK
        obtain ⟨aC, cC, rfl, hcC, hrC⟩ := hC.shape
        obtain ⟨m, hm⟩ : ∃ m, K.length = m := ⟨_, rfl⟩
        have hm28 : m ≤ 268435456 := by
          have h1 := congrArg List.length hK.out
          rw [List.length_map] at h1
          have h2 := hFl.out
          omega
        obtain ⟨C, hCe⟩ : ∃ C, K.map (fun r => ck r.1) = C := ⟨_, rfl⟩
        have hCp : Hid (C.Perm (rem xs ts 0)) := by
          show List.Perm _ _
          have h1 : C = (allF xs T).map ck := by rw [← hCe, ← hK.out, List.map_map]; rfl
          rw [h1]; exact hperm.out
        have hCl : Hid (C.length = m) := by show _ = _; rw [← hCe, List.length_map]; exact hm
        have hCj : Hid (∀ j, j < m → C.getD j (0, 0, 0) = ck (K.getD j ct0).1) := by
          intro j hj
          rw [← hCe]
          simp [List.getD, show j < K.length by omega]
        rw [hm] at hrC hcC
        have Hm : Hid (K.length = m) := hm
        have Hm28 : Hid (m ≤ 268435456) := hm28
        rw [hm]
        clear hic hiE hi hCe hm hFl hls hperm hK hrC hcC rT
        replace hC : Hid (OwnC v2.heap.size wr (.slice aC m cC) K) := by show OwnC _ _ _ _; rw [← Hm.out]; exact hC
        have hm44 : m ≤ 17592186044416 := by omega
        clear hm28
        go_wp2_with (at_make; refine wpList_makeB _ rfl _ _ rfl .i64 .i64 _ _ m rfl rfl rfl rfl hm44 ?_; intro w6 hR6 k6 s6)
        have hC6 : Hid (OwnC v2.heap.size w6 (.slice aC m cC) K) := hC.out.keep k6
        have hgv : Hid (v2.heap.size ≤ wr.heap.size) := kw.le
        have kw6 : Hid (Keep v2 w6) := Keep.trans kw k6
        obtain ⟨g, hg⟩ : ∃ g, wr.heap.size = g := ⟨_, rfl⟩
        rw [hg] at hR6 hgv s6
        try rw [hg]
        have hR0 : Hid (Mk.RowB w6 g (List.replicate m false)) := hR6
        have hR6x : Hid (Mk.RowB w6 g (List.replicate m false)) := hR6
        have hP0 : Hid ((unK C (List.replicate m false)).Perm (rem xs (ts.drop 0) 0)) := by
          show List.Perm _ _
          have := unK_none C
          rw [hCl.out] at this
          rw [this]; exact hCp.out
        have hL0 : Hid (0 + (rem xs (ts.drop 0) 0).length = m) := by
          show _ = _
          have := hCp.out.length_eq
          rw [hCl.out] at this
          rw [List.drop_zero]; omega
        have hs6 : Hid (g < w6.heap.size) := by show _ < _; omega
        clear hg hC k6 kw hR6 s6 hm44
        go_loopw [11, 12] (fun cv kv wr => ∃ (c k : Nat) (U : List Bool), cv = .int .i64 (c : Int) ∧ kv = .int .i64 (k : Int) ∧ k ≤ n ∧ Mk.Stp (fun b => b = g) w6 wr ∧ Mk.RowB wr g U ∧ Hid (U.length = m) ∧ Hid ((unK C U).Perm (rem xs (ts.drop k) k)) ∧ Hid (c + (rem xs (ts.drop k) k).length = m)) (fun _ kv _ => n - (intOf kv).toNat)
        case atStart => exact ⟨0, 0, List.replicate m false, rfl, rfl, Nat.zero_le _, ⟨rfl, rfl, rfl, Nat.le_refl _, fun _ _ _ => rfl⟩, hR0.out, List.length_replicate, hP0.out, hL0.out⟩
        case round =>
          clear hR0 hP0 hL0
          obtain ⟨c, k, U, rfl, rfl, hk, hst, hR, hU, hP, hL⟩ := hrel
          by_cases hkn : k < n
          · have hkc : (k : Int) < (n : Int) := by omega
            have hkT : k < ts.length := by have := HN.out; omega
            have kwr : Hid (Keep v2 wr) := stp_keep hst kw6.out hgv.out
            obtain ⟨b3, o3, na3, nc3, rfl, t0, t1, hN3, -, hsz3, -⟩ := (RdT.keep ht.out (Keep.trans kW.out kwr.out)) k hkT
            have hlv3 := hlv.out k hkT
            have htr3 := htr.out k hkT
            have hrd := rem_drop xs hkT
            generalize ts.getD k (0, []) = t at *
            obtain ⟨tout, L⟩ := t
            simp only at t0 t1 hN3 hsz3 hlv3 htr3 hrd
            have hMF := Mk.False_any na3 ax nc3 cx tout (L.map Nd.m) xs (by simpa using hsz3) (by have := HN.out; omega) wr hN3.m (RdF.keep hxd.out (Keep.trans kW.out kwr.out))
            rw [List.length_map, HN.out.2.2.1, hlv3] at hMF
            have hkn2 : Hid (k < n) := hkn
            replace hrd : Hid _ := hrd
            replace hst : Hid _ := hst
            replace hR : Hid _ := hR
            obtain ⟨Ln, hLn⟩ : ∃ Ln, L.length = Ln := ⟨_, rfl⟩
            rw [hLn] at t1 hMF
            have htr4 : Hid (trE L = 0) := htr3
            clear hsz3 hLn hlv3 htr3 hN3
            go_upto_region 22 with (first
              | (go_at_call 26; refine hMF.mono ?_; rintro e w7 ⟨vM, M, rfl, hOM, -, hM1, k7⟩; replace k7 : Keep wr w7 := k7; clear hMF))
            obtain ⟨-, -, -, b4, hb4, -, -⟩ := Mk.lvE_ok htr4.out
            have hMe : M = (mkl L).filter fun m => fB xs (L.getD m.1 nd0) := by rw [← flm_mkl, mkl_of hb4]; exact hM1 b4 trivial hb4
            obtain ⟨q, hq⟩ : ∃ q, M.length = q := ⟨_, rfl⟩
            have hMK : Hid (mK xs L (k : Nat) = M.map fun m => ((k : Int), (m.2.1 : Int), (m.2.2 : Int))) := by show _ = _; rw [hMe]; rfl
            obtain ⟨MK, hMKe⟩ : ∃ MK, (M.map fun m => ((k : Int), (m.2.1 : Int), (m.2.2 : Int))) = MK := ⟨_, rfl⟩
            have hMKl : Hid (MK.length = q) := by show _ = _; rw [← hMKe, List.length_map]; exact hq
            have hMKj : Hid (∀ j, j < q → MK.getD j (0, 0, 0) = ((k : Int), ((M.getD j Mk.m0).2.1 : Int), ((M.getD j Mk.m0).2.2 : Int))) := by
              intro j hj
              rw [← hMKe]
              simp [List.getD, show j < M.length by omega]
            rw [hMKe] at hMK
            obtain ⟨rest, hrest⟩ : ∃ rest, rem xs (ts.drop (k + 1)) (k + 1) = rest := ⟨_, rfl⟩
            have hrd2 := hrd.out
            rw [hMK.out, hrest] at hrd2
            have hg7 : g < wr.heap.size := (Array.getElem?_eq_some_iff.1 hR.out).1
            have hMs : ∃ aM cM, vM = .slice aM q cM ∧ ∀ j, j < q → ∃ b o, aM = some ⟨b, o, none⟩ ∧ b ≠ g ∧ w7.cell? ⟨b, o + j * 3 + 1, none⟩ = some (.int .i64 ((M.getD j Mk.m0).2.1 : Nat)) ∧ w7.cell? ⟨b, o + j * 3 + 2, none⟩ = some (.int .i64 ((M.getD j Mk.m0).2.2 : Nat)) := by
              obtain ⟨aM, cM, e, -, hr⟩ := hOM.shape
              rw [hq] at e
              refine ⟨aM, cM, e, fun j hj => ?_⟩
              obtain ⟨b, o, e2, r0, r1, r2⟩ := hr j (by omega)
              refine ⟨b, o, e2, ?_, r1, r2⟩
              rcases hOM.2 with ⟨e3, -⟩ | ⟨g9, cap9, cur, e3, h9, -⟩
              · rw [e3, e2] at e; cases e
              · rw [e3, e2] at e
                simp only [Value.slice.injEq, Option.some.injEq, Addr.mk.injEq] at e
                have := e.1.1
                omega
            obtain ⟨aM, cM, rfl, hrM⟩ := hMs
            have hst7 : Mk.Stp (fun b => b = g) w6 w7 := stp_trans hst.out (stp_of_keep k7)
            have hR7 : Mk.RowB w7 g U := rowB_keep hR.out k7
            have hC7 : Hid (OwnC v2.heap.size w7 (.slice aC m cC) K) := (stp_ownC hst.out (by have h9 := hR.out; exact hR6x.out) hC6.out).keep k7
            have hP1 : Hid ((unK C U).Perm (MK.drop 0 ++ rest)) := by show List.Perm _ _; rw [List.drop_zero, ← hrd2]; exact hP.out
            have hL1 : Hid (c + (q - 0) + rest.length = m) := by
              show _ = _
              have h1 := hL.out
              rw [hrd2, List.length_append, hMKl.out] at h1
              omega
            have hqm : Hid (q ≤ m) := by show _ ≤ _; have := hL1.out; omega
            have hrC : Hid (∀ j, j < m → ∃ b, aC = some ⟨b, 0, none⟩ ∧ b ≠ g ∧ w7.cell? ⟨b, j * 5 + 2, none⟩ = some (.int .i64 (K.getD j ct0).1.tr) ∧ w7.cell? ⟨b, j * 5 + 3, none⟩ = some (.int .i64 (K.getD j ct0).1.fr) ∧ w7.cell? ⟨b, j * 5 + 4, none⟩ = some (.int .i64 (K.getD j ct0).1.to)) := by
              intro j hj
              obtain ⟨a9, c9, e9, -, hr9⟩ := hC7.out.shape
              obtain ⟨b, e2, hu⟩ := hr9 j (by rw [Hm.out]; exact hj)
              simp only [Value.slice.injEq] at e9
              obtain ⟨e9, -, -⟩ := e9
              subst e9
              subst e2
              refine ⟨b, rfl, fun e => ?_, hu 2 _ (by omega) rfl, hu 3 _ (by omega) rfl, hu 4 _ (by omega) rfl⟩
              obtain ⟨-, cur, h9⟩ := hC7.out.block (b := b) rfl
              rw [e] at h9
              have h8 := hR7
              unfold Mk.RowB at h8
              rw [h8] at h9
              simp at h9
            have hst7' : Hid _ := hst7
            have hR7' : Hid _ := hR7
            replace hrM : Hid _ := hrM
            have Hrest : Hid (rem xs (ts.drop (k + 1)) (k + 1) = rest) := hrest
            clear hM1 hOM hMe hq hMKe hrd2 hg7 k7 hP hL hrest hst hR hst7 hR7 t0 t1 hrd hMK hk
            go_wp2_with fail
            go_loopw [11, 15] (fun cv iv wr => ∃ (c1 i1 : Nat) (U1 : List Bool), cv = .int .i64 (c1 : Int) ∧ iv = .int .i64 (i1 : Int) ∧ i1 ≤ q ∧ Mk.Stp (fun b => b = g) w7 wr ∧ Mk.RowB wr g U1 ∧ Hid (U1.length = m) ∧ Hid ((unK C U1).Perm (MK.drop i1 ++ rest)) ∧ Hid (c1 + (q - i1) + rest.length = m)) (fun _ iv _ => q - (intOf iv).toNat)
            case atStart => exact ⟨c, 0, U, rfl, rfl, Nat.zero_le _, ⟨rfl, rfl, rfl, Nat.le_refl _, fun _ _ _ => rfl⟩, hR7'.out, hU, hP1.out, hL1.out⟩
            case round =>
              clear hP1 hL1 hR7' hU
              obtain ⟨c1, i1, U1, rfl, rfl, hi1, hst1, hR1, hU1, hP1, hL1⟩ := hrel
              by_cases hiq : i1 < q
              · have hic1 : (i1 : Int) < (q : Int) := by omega
                obtain ⟨bM, oM, rfl, hbg, r1, r2⟩ := hrM.out i1 hiq
                have hkj := hMKj.out i1 hiq
                have hdr : MK.drop i1 = MK.getD i1 (0, 0, 0) :: MK.drop (i1 + 1) := by
                  have hl := hMKl.out
                  rw [List.drop_eq_getElem_cons (by omega)]
                  simp [List.getD, show i1 < MK.length by omega]
                obtain ⟨κ, hκ⟩ : ∃ κ, MK.getD i1 (0, 0, 0) = κ := ⟨_, rfl⟩
                rw [hκ] at hkj hdr
                generalize M.getD i1 Mk.m0 = mu at *
                obtain ⟨m0', mf, mt⟩ := mu
                simp only at hkj r1 r2
                have hP2 : Hid ((unK C U1).Perm (κ :: (MK.drop (i1 + 1) ++ rest))) := by show List.Perm _ _; rw [← List.cons_append, ← hdr]; exact hP1.out
                have hEx : Hid (∃ j, j < m ∧ U1.getD j false = false ∧ C.getD j (0, 0, 0) = κ) := by
                  obtain ⟨j, h1, h2, h3, h4⟩ := unK_mem ((hP2.out.mem_iff).2 List.mem_cons_self)
                  exact ⟨j, by rw [← hCl.out]; exact h1, h3, h4⟩
                have hst1' : Hid _ := hst1
                have hR1' : Hid _ := hR1
                have hiq2 : Hid (i1 < q) := hiq
                replace hkj : Hid _ := hkj
                clear hdr hκ hP1 hst1 hR1 hi1
                go_wp2_with fail
                go_loopw [16, 17] (fun fv jv wr => ∃ (fd : Bool) (j : Nat), fv = .bool fd ∧ jv = .int .i64 (j : Int) ∧ j ≤ m ∧ Mk.Stp (fun b => b = g) w7 wr ∧ ∃ (U2 : List Bool), Mk.RowB wr g U2 ∧ Hid (U2.length = m) ∧ (fd = false → U2 = U1 ∧ ∀ j', j' < j → ¬ (U1.getD j' false = false ∧ C.getD j' (0, 0, 0) = κ)) ∧ (fd = true → (κ :: unK C U2).Perm (unK C U1))) (fun _ jv _ => m - (intOf jv).toNat)
                case atStart => exact ⟨false, 0, rfl, rfl, Nat.zero_le _, hst1'.out, U1, hR1'.out, hU1, fun _ => ⟨rfl, fun j' h => by omega⟩, fun h => by cases h⟩
                case round =>
                  clear hst1' hR1'
                  obtain ⟨fd, j, rfl, rfl, hj, hst4, U2, hR4, hU4, hF0, hF1⟩ := hrel
                  cases fd with
                  | true =>
                    have hp := hF1 rfl
                    have hP3 : Hid ((unK C U2).Perm (MK.drop (i1 + 1) ++ rest)) := (hp.trans hP2.out).cons_inv
                    replace hst4 : Hid _ := hst4
                    replace hR4 : Hid _ := hR4
                    clear hF0 hF1 hp
                    by_cases hjm : j < m
                    · have hjc : (j : Int) < (m : Int) := by omega
                      clear hjm hj
                      go_wp2_with fail
                      have hm8 := Hm28.out
                      have hi8 := hiq2.out
                      obtain ⟨hs1, hs2⟩ := cnt_step hL1.out hi8
                      rw [wrap_up4 (n := m) (Nat.le_trans hm8 (by decide)) hs2, wrap_up4 (n := q) (Nat.le_trans hqm.out (Nat.le_trans hm8 (by decide))) hi8]
                      exact ⟨⟨c1 + 1, i1 + 1, U2, rfl, rfl, hi8, hst4.out, hR4.out, hU4, hP3, hs1⟩, by show q - (((i1 + 1 : Nat) : Int)).toNat < q - ((i1 : Int)).toNat; omega⟩
                    · have hjc : ¬ (j : Int) < (m : Int) := by omega
                      clear hjm hj
                      go_wp2_with fail
                      have hm8 := Hm28.out
                      have hi8 := hiq2.out
                      obtain ⟨hs1, hs2⟩ := cnt_step hL1.out hi8
                      rw [wrap_up4 (n := m) (Nat.le_trans hm8 (by decide)) hs2, wrap_up4 (n := q) (Nat.le_trans hqm.out (Nat.le_trans hm8 (by decide))) hi8]
                      exact ⟨⟨c1 + 1, i1 + 1, U2, rfl, rfl, hi8, hst4.out, hR4.out, hU4, hP3, hs1⟩, by show q - (((i1 + 1 : Nat) : Int)).toNat < q - ((i1 : Int)).toNat; omega⟩
                  | false =>
                    obtain ⟨hUe, hF0b⟩ := hF0 rfl
                    replace hUe := hUe.symm
                    subst hUe
                    by_cases hjm : j < m
                    · have hjc : (j : Int) < (m : Int) := by omega
                      obtain ⟨bC, hbC, hbgC, e2, e3, e4⟩ := hrC.out j hjm
                      have g0 := Mk.RowB.cell hR4 j (by rw [hU4.out]; exact hjm)
                      have g1 := stp_cell hst4 hbgC e2
                      have g2 := stp_cell hst4 hbgC e3
                      have g3 := stp_cell hst4 hbgC e4
                      have g4 := stp_cell hst4 hbg r1
                      have g5 := stp_cell hst4 hbg r2
                      have hCe := hCj.out j hjm
                      generalize (K.getD j ct0).1 = cu at *
                      obtain ⟨cth, ccs, ctr, cfr, cto⟩ := cu
                      simp only at g1 g2 g3
                      unfold ck at hCe
                      simp only at hCe
                      have hjm2 : Hid (j < m) := hjm
                      replace hCe : Hid _ := hCe
                      replace hF0b : Hid _ := hF0b
                      replace hst4 : Hid _ := hst4
                      replace hR4 : Hid _ := hR4
                      subst hbC
                      obtain ⟨ub, hub⟩ : ∃ ub, U1.getD j false = ub := ⟨_, rfl⟩
                      rw [hub] at g0
                      replace hub : Hid _ := hub
                      clear e2 e3 e4 hjm hj hF0 hF1
                      cases ub with
                      | true =>
                        have hNo : Hid (∀ j', j' < j + 1 → ¬ (U1.getD j' false = false ∧ C.getD j' (0, 0, 0) = κ)) := by
                          intro j' h9 h8
                          by_cases e9 : j' = j
                          · subst e9
                            rw [hub.out] at h8; cases h8.1
                          · exact hF0b.out j' (by omega) h8
                        go_wp2_with fail
                        refine region_keepQ (Keep.refl wr) (by kernel_rfl) (by kernel_rfl) ?_
                        repeat
                          with_reducible refine wpQuiet_step ?_
                          intro KK hKK
                          go_simp
                          first
                            | (with_reducible refine hKK _ ?_; clear hKK KK)
                            | (with_reducible refine (if_neg ?_).mpr (hKK _ ?_)
                               · decide
                               clear hKK KK)
                            | (apply Exists.intro
                               with_reducible refine ⟨fun wq hq => ?_, hKK _ ?_⟩
                               · first
                                   | with_reducible rfl
                                   | (have qc0 := hq.cell g0; have qc1 := hq.cell g1; have qc2 := hq.cell g2; have qc3 := hq.cell g3; have qc4 := hq.cell g4; have qc5 := hq.cell g5; go_simp; with_reducible rfl)
                               clear hKK KK)
                        with_reducible refine wpQuiet_nil ?_
                        intro W9 kd
                        go_simp
                        replace kd : Hid (Keep wr W9) := kd
                        go_wp2_with fail
                        have hm8 := Hm28.out
                        have hj8 := hjm2.out
                        rw [wrap_up4 (n := m) (Nat.le_trans hm8 (by decide)) hj8]
                        exact ⟨⟨false, j + 1, rfl, rfl, hj8, stp_trans hst4.out (stp_of_keep kd.out), U1, rowB_keep hR4.out kd.out, hU1, fun _ => ⟨rfl, hNo.out⟩, fun h => by cases h⟩, by show m - (((j + 1 : Nat) : Int)).toNat < m - ((j : Int)).toNat; omega⟩
                      | false =>
                        by_cases hq1 : ctr = (k : Int)
                        · have b1 : (ctr == (k : Int)) = true := by rw [hq1]; simp
                          by_cases hq2 : cfr = (mf : Int)
                          · have b2 : (cfr == (mf : Int)) = true := by rw [hq2]; simp
                            by_cases hq3 : cto = (mt : Int)
                            · have b3 : (cto == (mt : Int)) = true := by rw [hq3]; simp
                              have hκe : C.getD j (0, 0, 0) = κ := by rw [hCe.out, hkj.out, hq1, hq2, hq3]
                              have hPm : Hid ((κ :: unK C (U1.set j true)).Perm (unK C U1)) := by
                                show List.Perm _ _
                                rw [← hκe]
                                exact unK_use (by rw [hCl.out]; exact hjm2.out) (by rw [hU1.out]; exact hjm2.out) hub.out
                              have hUs : Hid ((U1.set j true).length = m) := by show _ = _; rw [List.length_set]; exact hU1.out
                              replace hq1 : Hid _ := hq1
                              replace hq2 : Hid _ := hq2
                              replace hq3 : Hid _ := hq3
                              clear hκe
                              go_wp2_with fail
                              refine region_keepQ (Keep.refl wr) (by kernel_rfl) (by kernel_rfl) ?_
                              repeat
                                with_reducible refine wpQuiet_step ?_
                                intro KK hKK
                                go_simp
                                first
                                  | (with_reducible refine hKK _ ?_; clear hKK KK)
                                  | (with_reducible refine (if_neg ?_).mpr (hKK _ ?_)
                                     · decide
                                     clear hKK KK)
                                  | (apply Exists.intro
                                     with_reducible refine ⟨fun wq hq => ?_, hKK _ ?_⟩
                                     · first
                                         | with_reducible rfl
                                         | (have qc0 := hq.cell g0; have qc1 := hq.cell g1; have qc2 := hq.cell g2; have qc3 := hq.cell g3; have qc4 := hq.cell g4; have qc5 := hq.cell g5; go_simp; with_reducible rfl)
                                     clear hKK KK)
                              with_reducible refine wpQuiet_nil ?_
                              intro W9 kd
                              go_simp
                              replace kd : Hid (Keep wr W9) := kd
                              have hR9 := rowB_keep hR4.out kd.out
                              have z0 := Mk.RowB.cell hR9 j (by rw [hU1.out]; exact hjm2.out)
                              have z1 := Mk.RowB.frozen hR9 j
                              have hR10 : Hid _ := Mk.RowB.set hR9 j true
                              have hst9 : Hid (Mk.Stp (fun b => b = g) w7 (W9.setCell ⟨g, j, none⟩ (.bool true))) := stp_trans (stp_trans hst4.out (stp_of_keep kd.out)) (Mk.Stp.set _ rfl)
                              clear hR9
                              go_wp2_with fail
                              have hm8 := Hm28.out
                              have hj8 := hjm2.out
                              rw [wrap_up4 (n := m) (Nat.le_trans hm8 (by decide)) hj8]
                              exact ⟨⟨true, j + 1, rfl, rfl, hj8, hst9.out, U1.set j true, hR10.out, hUs, fun h => (by cases h), fun _ => hPm.out⟩, by show m - (((j + 1 : Nat) : Int)).toNat < m - ((j : Int)).toNat; omega⟩
                            · have b3 : (cto == (mt : Int)) = false := by rw [beq_eq_false_iff_ne]; exact hq3
                              have hNo : Hid (∀ j', j' < j + 1 → ¬ (U1.getD j' false = false ∧ C.getD j' (0, 0, 0) = κ)) := by
                                intro j' h9 h8
                                by_cases e9 : j' = j
                                · subst e9
                                  rw [hCe.out, hkj.out] at h8; simp only [Prod.mk.injEq] at h8; exact hq3 h8.2.2.2
                                · exact hF0b.out j' (by omega) h8
                              replace hq3 : Hid _ := hq3
                              replace hq1 : Hid _ := hq1
                              replace hq2 : Hid _ := hq2
                              go_wp2_with fail
                              refine region_keepQ (Keep.refl wr) (by kernel_rfl) (by kernel_rfl) ?_
                              repeat
                                with_reducible refine wpQuiet_step ?_
                                intro KK hKK
                                go_simp
                                first
                                  | (with_reducible refine hKK _ ?_; clear hKK KK)
                                  | (with_reducible refine (if_neg ?_).mpr (hKK _ ?_)
                                     · decide
                                     clear hKK KK)
                                  | (apply Exists.intro
                                     with_reducible refine ⟨fun wq hq => ?_, hKK _ ?_⟩
                                     · first
                                         | with_reducible rfl
                                         | (have qc0 := hq.cell g0; have qc1 := hq.cell g1; have qc2 := hq.cell g2; have qc3 := hq.cell g3; have qc4 := hq.cell g4; have qc5 := hq.cell g5; go_simp; with_reducible rfl)
                                     clear hKK KK)
                              with_reducible refine wpQuiet_nil ?_
                              intro W9 kd
                              go_simp
                              replace kd : Hid (Keep wr W9) := kd
                              go_wp2_with fail
                              have hm8 := Hm28.out
                              have hj8 := hjm2.out
                              rw [wrap_up4 (n := m) (Nat.le_trans hm8 (by decide)) hj8]
                              exact ⟨⟨false, j + 1, rfl, rfl, hj8, stp_trans hst4.out (stp_of_keep kd.out), U1, rowB_keep hR4.out kd.out, hU1, fun _ => ⟨rfl, hNo.out⟩, fun h => by cases h⟩, by show m - (((j + 1 : Nat) : Int)).toNat < m - ((j : Int)).toNat; omega⟩
                          · have b2 : (cfr == (mf : Int)) = false := by rw [beq_eq_false_iff_ne]; exact hq2
                            have hNo : Hid (∀ j', j' < j + 1 → ¬ (U1.getD j' false = false ∧ C.getD j' (0, 0, 0) = κ)) := by
                              intro j' h9 h8
                              by_cases e9 : j' = j
                              · subst e9
                                rw [hCe.out, hkj.out] at h8; simp only [Prod.mk.injEq] at h8; exact hq2 h8.2.2.1
                              · exact hF0b.out j' (by omega) h8
                            replace hq1 : Hid _ := hq1
                            replace hq2 : Hid _ := hq2
                            go_wp2_with fail
                            refine region_keepQ (Keep.refl wr) (by kernel_rfl) (by kernel_rfl) ?_
                            repeat
                              with_reducible refine wpQuiet_step ?_
                              intro KK hKK
                              go_simp
                              first
                                | (with_reducible refine hKK _ ?_; clear hKK KK)
                                | (with_reducible refine (if_neg ?_).mpr (hKK _ ?_)
                                   · decide
                                   clear hKK KK)
                                | (apply Exists.intro
                                   with_reducible refine ⟨fun wq hq => ?_, hKK _ ?_⟩
                                   · first
                                       | with_reducible rfl
                                       | (have qc0 := hq.cell g0; have qc1 := hq.cell g1; have qc2 := hq.cell g2; have qc3 := hq.cell g3; have qc4 := hq.cell g4; have qc5 := hq.cell g5; go_simp; with_reducible rfl)
                                   clear hKK KK)
                            with_reducible refine wpQuiet_nil ?_
                            intro W9 kd
                            go_simp
                            replace kd : Hid (Keep wr W9) := kd
                            go_wp2_with fail
                            have hm8 := Hm28.out
                            have hj8 := hjm2.out
                            rw [wrap_up4 (n := m) (Nat.le_trans hm8 (by decide)) hj8]
                            exact ⟨⟨false, j + 1, rfl, rfl, hj8, stp_trans hst4.out (stp_of_keep kd.out), U1, rowB_keep hR4.out kd.out, hU1, fun _ => ⟨rfl, hNo.out⟩, fun h => by cases h⟩, by show m - (((j + 1 : Nat) : Int)).toNat < m - ((j : Int)).toNat; omega⟩
                        · have b1 : (ctr == (k : Int)) = false := by rw [beq_eq_false_iff_ne]; exact hq1
                          have hNo : Hid (∀ j', j' < j + 1 → ¬ (U1.getD j' false = false ∧ C.getD j' (0, 0, 0) = κ)) := by
                            intro j' h9 h8
                            by_cases e9 : j' = j
                            · subst e9
                              rw [hCe.out, hkj.out] at h8; simp only [Prod.mk.injEq] at h8; exact hq1 h8.2.1
                            · exact hF0b.out j' (by omega) h8
                          replace hq1 : Hid _ := hq1
                          go_wp2_with fail
                          refine region_keepQ (Keep.refl wr) (by kernel_rfl) (by kernel_rfl) ?_
                          repeat
                            with_reducible refine wpQuiet_step ?_
                            intro KK hKK
                            go_simp
                            first
                              | (with_reducible refine hKK _ ?_; clear hKK KK)
                              | (with_reducible refine (if_neg ?_).mpr (hKK _ ?_)
                                 · decide
                                 clear hKK KK)
                              | (apply Exists.intro
                                 with_reducible refine ⟨fun wq hq => ?_, hKK _ ?_⟩
                                 · first
                                     | with_reducible rfl
                                     | (have qc0 := hq.cell g0; have qc1 := hq.cell g1; have qc2 := hq.cell g2; have qc3 := hq.cell g3; have qc4 := hq.cell g4; have qc5 := hq.cell g5; go_simp; with_reducible rfl)
                                 clear hKK KK)
                          with_reducible refine wpQuiet_nil ?_
                          intro W9 kd
                          go_simp
                          replace kd : Hid (Keep wr W9) := kd
                          go_wp2_with fail
                          have hm8 := Hm28.out
                          have hj8 := hjm2.out
                          rw [wrap_up4 (n := m) (Nat.le_trans hm8 (by decide)) hj8]
                          exact ⟨⟨false, j + 1, rfl, rfl, hj8, stp_trans hst4.out (stp_of_keep kd.out), U1, rowB_keep hR4.out kd.out, hU1, fun _ => ⟨rfl, hNo.out⟩, fun h => by cases h⟩, by show m - (((j + 1 : Nat) : Int)).toNat < m - ((j : Int)).toNat; omega⟩
                    · exfalso
                      obtain ⟨j0, h1, h2, h3⟩ := hEx.out
                      exact hF0b j0 (by omega) ⟨h2, h3⟩
              · have hic1 : ¬ (i1 : Int) < (q : Int) := by omega
                have hiE : i1 = q := by omega
                have hP3 : Hid ((unK C U1).Perm (rem xs (ts.drop (k + 1)) (k + 1))) := by
                  show List.Perm _ _
                  have h9 := hP1.out
                  rw [hiE, List.drop_eq_nil_of_le (by rw [hMKl.out]; omega), List.nil_append] at h9
                  rw [Hrest.out]; exact h9
                have hL3 : Hid (c1 + (rem xs (ts.drop (k + 1)) (k + 1)).length = m) := by
                  show _ = _
                  have h9 := hL1.out
                  rw [Hrest.out]
                  omega
                have hst8 : Hid (Mk.Stp (fun b => b = g) w6 wr) := stp_trans hst7'.out hst1
                replace hR1 : Hid _ := hR1
                clear hst1 hP1 hL1 hiE hi1 hiq
                go_wp2_with fail
                have hn8 := HN.out.2.1
                have hk8 := hkn2.out
                rw [wrap_u1 (n := n) (Nat.le_trans hn8 (by decide)) hk8]
                exact ⟨⟨c1, k + 1, U1, rfl, rfl, hk8, hst8.out, hR1.out, hU1, hP3, hL3⟩, by show n - (((k + 1 : Nat) : Int)).toNat < n - ((k : Int)).toNat; omega⟩
          · have hkc : ¬ (k : Int) < (n : Int) := by omega
            have hkE : k = n := by omega
            have hcm : c = m := by
              have h9 := hL.out
              have h8 : ts.drop k = [] := List.drop_eq_nil_of_le (by have := HN.out.1; omega)
              rw [h8] at h9
              simpa [rem] using h9
            have kwr : Hid (Keep v2 wr) := stp_keep hst kw6.out hgv.out
            have hcm2 : ((c : Int) == (m : Int)) = true := by rw [hcm]; simp
            clear hst hR hU hP hL hkE hk hkn hcm
            go_wp2_with fail
            go_ret
            exact ⟨by first | rfl | (simp [hcm2]), Keep.trans kW.out kwr.out⟩
  · have x1 : (E != 0) = true := bne_iff_ne.2 hE0
    have hTe := hT0 hE0
    subst hTe
    clear hT0 hT1 HE rT
    replace hE0 : Hid _ := hE0
    go_wp2_with fail
    go_ret
    exact ⟨rfl, kW.out⟩
end Go.Proofs.Ytaogjiffnebnkaa
