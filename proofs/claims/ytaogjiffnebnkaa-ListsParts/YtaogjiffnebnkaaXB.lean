import Derived.Test.YtaogjiffnebnkaaXF
import Derived.Deep.RegionHeld3
set_option linter.unusedVariables false
set_option linter.unusedSimpArgs false
namespace Go.Proofs.Ytaogjiffnebnkaa
open Go.RowKit Go.Shelf Go.Maps
attribute [local go_sem] run_store_float
set_option maxRecDepth 100000 in
set_option maxHeartbeats 4000000 in
theorem law_parts (a : Option Addr) (cap : Nat) (ts : List (Int × List Nd)) (F P : Int) (w : World) (ht : RdT w a ts) (hcap : ts.length ≤ cap) (htl : ts.length ≤ 4398046511104) (hP : -9223372036854775808 ≤ P ∧ P ≤ 9223372036854775807) :
    Calls Try.prog 7 #[.slice a ts.length cap, .int .i64 F, .int .i64 P] w fun e w' => e = .returned (.bool true) ∧ Keep w w' := by
  obtain ⟨n, hn⟩ : ∃ n, ts.length = n := ⟨_, rfl⟩
  obtain ⟨q, hq⟩ : ∃ q : Nat, IntKind.u64.wrap P = (q : Nat) := ⟨(IntKind.u64.wrap P).toNat, by
    have : 0 ≤ IntKind.u64.wrap P := by simp [IntKind.wrap, IntKind.signed, IntKind.bits]; omega
    omega⟩
  obtain ⟨k, hk⟩ : ∃ k, q % (n + 1) = k := ⟨_, rfl⟩
  have hkn : k ≤ n := by have := Nat.mod_lt q (show 0 < n + 1 by omega); omega
  rw [hn] at hcap htl
  obtain ⟨ad1, s1, t1⟩ := slice_upto (a := a) hcap hkn
  obtain ⟨ad2, s2, t2⟩ := slice_from ht hn hcap hkn
  have t1' := t1 w ts ht
  have rdA : Hid (RdT w ad1 (ts.take k)) := t1'
  have rdB : Hid (RdT w ad2 (ts.drop k)) := t2
  have w1 : wrap64 ((n : Int) + 1) = (n : Int) + 1 := by unfold wrap64; omega
  have w1' : IntKind.i64.wrap ((n : Int) + 1) = (n : Int) + 1 := by rw [IntWalk.i64_left]; exact w1
  have w2 : IntKind.u64.wrap ((n : Int) + 1) = (n : Int) + 1 := by simp [IntKind.wrap, IntKind.signed, IntKind.bits]; omega
  have w3 : ((q : Nat) : Int).tmod ((n : Int) + 1) = (k : Nat) := by rw [← hk]; exact (Int.ofNat_tmod q (n + 1)).symm ▸ rfl
  have w4 : IntKind.i64.wrap (k : Int) = (k : Int) := by rw [IntWalk.i64_left]; unfold wrap64; omega
  have w4' : wrap64 (k : Int) = (k : Int) := by unfold wrap64; omega
  have w5 : ((n : Int) + 1 == 0) = false := by rw [beq_eq_false_iff_ne]; omega
  have w6 : ¬ ((n : Int) + 1 = 0) := by omega
  clear hk
  have hq2 := hq
  replace hq2 : Hid _ := hq2
  have hB := begins_any w
  have hO := fun (wx : World) (kx : Keep w wx) => Of_rd a cap ts n hn F wx (RdT.keep ht kx)
  have hOA := fun (wx : World) (kx : Keep w wx) => Of_rd ad1 cap (ts.take k) k (by rw [List.length_take, hn]; exact Nat.min_eq_left hkn) F wx (RdT.keep t1' kx)
  have hOB := fun (wx : World) (kx : Keep w wx) => Of_rd ad2 (cap - k) (ts.drop k) (n - k) (by rw [List.length_drop, hn]) F wx (RdT.keep t2 kx)
  have hsp : Hid (ts.take k ++ ts.drop k = ts) := List.take_append_drop k ts
  have HN : Hid (ts.length = n ∧ n ≤ 4398046511104 ∧ k ≤ n) := ⟨hn, htl, hkn⟩
  rw [hn]
  obtain ⟨E, hE⟩ : ∃ E, ofE ts F = E := ⟨_, rfl⟩
  obtain ⟨EA, hEA⟩ : ∃ E, ofE (ts.take k) F = E := ⟨_, rfl⟩
  obtain ⟨EB, hEB⟩ : ∃ E, ofE (ts.drop k) F = E := ⟨_, rfl⟩
  rw [hE] at hO
  rw [hEA] at hOA
  rw [hEB] at hOB
  have hof := ofE_app (ts.take k) (ts.drop k) F
  rw [hsp.out, hE, hEA, hEB, hn] at hof
  have hk1 : (k : Int) ≤ (n : Int) := Int.ofNat_le.2 hkn
  replace hO : Hid _ := hO
  replace hOA : Hid _ := hOA
  replace hOB : Hid _ := hOB
  replace hof : Hid _ := hof
  replace s1 : Hid _ := s1
  replace s2 : Hid _ := s2
  have HE : Hid (ofE ts F = E ∧ ofE (ts.take k) F = EA ∧ ofE (ts.drop k) F = EB) := ⟨hE, hEA, hEB⟩
  clear hn hkn hcap htl hP t1 t1' t2 ht hE hEA hEB
  go_enter Try.func7, Try.ntmps7
  go_upto_region 7 with (first
    | (go_at_call 25; refine hB.mono ?_; rintro e v1 ⟨rfl, k1⟩; clear hB)
    | (go_at_call 10; refine (hO.out v1 k1).mono ?_; rintro e v2 ⟨aT, cT, T, rfl, k2, rT, bT, hT0, hT1⟩; clear hO; have kv2 := Keep.trans k1 k2)
    | (go_at_call 10; refine (hOA.out v2 kv2).mono ?_; rintro e v3 ⟨aA, cA, TA, rfl, k3, rA, bA, hA0, hA1⟩; clear hOA; have kv3 := Keep.trans kv2 k3)
    | (go_at_call 10; refine (hOB.out v3 kv3).mono ?_; rintro e v4 ⟨aB, cB, TB, rfl, k4, rB, bB, hB0, hB1⟩; clear hOB; have kv4 := Keep.trans kv3 k4)
    | (refine wpList_slc rfl _ _ _ rfl _ (s1.out _) ?_)
    | (refine wpList_slc rfl _ _ _ rfl _ (s2.out _) ?_))
  have kW : Hid (Keep w v4) := kv4
  clear hq s1 s2 kv2 kv3 k1 k2 hq2 w1 w1' w2 w3 w4 w4' w5 w6 hk1
  have rA2 := RdL.keep rA k4
  have rT2 := RdL.keep (RdL.keep rT k3) k4
  clear rA rT k3 k4 kv4
  by_cases hE0 : E = 0
  · obtain ⟨e1, e2⟩ := hof.out.1 hE0
    have hI := hT1 hE0
    have hIA := hA1 e1
    have hIB := hB1 e2
    have hsm := ofE_small (HE.out.1.trans hE0)
    have hgl := gall_len hsm.2 ts.length (Nat.le_refl _)
    rw [List.take_length] at hgl
    have hga := gall_app (ts.take k) (ts.drop k).length (ts.drop k) rfl
    have hkl : (ts.take k).length = k := by rw [List.length_take, HN.out.1]; exact Nat.min_eq_left HN.out.2.2
    rw [hsp.out, hkl] at hga
    have hcT := hI.cnt
    have hcA := hIA.cnt
    have hcB := hIB.cnt
    have hsum : Hid (cnt T = cnt TA + cnt TB) := by
      show _ = _
      rw [hcT, hcA, hcB, hga, List.length_append]
      unfold shS
      rw [List.length_map]
    have hbnd : Hid (cnt T ≤ 268435456) := by
      show _ ≤ _
      rw [hcT]
      have h1 := hsm.1
      omega
    rw [hga] at hI
    have hPe : Hid (∀ t ∈ T, t.ns = mrg (lkp TA t.ft).ns ((lkp TB t.ft).ns.map (shf (k : Nat))) ∧ t.cs = (lkp TA t.ft).cs ++ (lkp TB t.ft).cs.map (shf (k : Nat)) ∧ t.ls = (lkp TA t.ft).ls ++ (lkp TB t.ft).ls.map (shf (k : Nat))) := fun t ht => parts_eq hI hIA hIB ht
    have hk6 : Hid (k ≤ 65536) := by
      show _ ≤ _
      have h1 := hsm.1
      have h2 := HN.out.1
      have h3 := HN.out.2.2
      omega
    have hAs : ∀ j, j < (ts.take k).length → tkE ((ts.take k).getD j (0, [])).2 F = 0 := (ofE_small (HE.out.2.1.trans e1)).2
    have hBs : ∀ j, j < (ts.drop k).length → tkE ((ts.drop k).getD j (0, [])).2 F = 0 := (ofE_small (HE.out.2.2.trans e2)).2
    have hokA : Hid (∀ s ∈ gall (ts.take k), okT s.2 ∧ 0 ≤ s.2.tr ∧ s.2.tr ≤ 65536) := by
      intro s hs
      have h1 := (ofE_small (HE.out.2.1.trans e1)).1
      obtain ⟨g1, g2, g3⟩ := gall_ok rdA.out hAs (ts.take k).length (Nat.le_refl _) s (by rw [List.take_length]; exact hs)
      exact ⟨g1, g2, by omega⟩
    have hokB : Hid (∀ s ∈ gall (ts.drop k), okT s.2 ∧ 0 ≤ s.2.tr ∧ s.2.tr ≤ 65536) := by
      intro s hs
      have h1 := (ofE_small (HE.out.2.2.trans e2)).1
      obtain ⟨g1, g2, g3⟩ := gall_ok rdB.out hBs (ts.drop k).length (Nat.le_refl _) s (by rw [List.take_length]; exact hs)
      exact ⟨g1, g2, by omega⟩
    clear hAs hBs
    have hKO := hIA
    subst hE0
    rw [e1, e2]
    clear hT0 hT1 hA0 hA1 hB0 hB1 hof hcT hcA hcB hga hgl hsm hI hkl e1 e2 HE
    replace hIA : Hid _ := hIA
    replace hIB : Hid _ := hIB
    replace bT : Hid _ := bT
    replace bA : Hid _ := bA
    replace bB : Hid _ := bB
    clear hKO
    go_wp2_with fail
    go_loopw [14, 15] (fun nv iv wr => ∃ (i : Nat), nv = .int .i64 (cnt (T.take i) : Nat) ∧ iv = .int .i64 (i : Int) ∧ i ≤ T.length ∧ Keep v4 wr) (fun _ iv _ => T.length - (intOf iv).toNat)
    case atStart => exact ⟨0, rfl, rfl, Nat.zero_le _, Keep.refl _⟩
    case round =>
      obtain ⟨i, rfl, rfl, hi, kw⟩ := hrel
      by_cases hil : i < T.length
      · have hic : (i : Int) < (T.length : Int) := by omega
        obtain ⟨b1, o1, na1, nc1, ca1, cc1, la1, lc1, rfl, c0, c1, c2, c3, q1, q2, q3, m1, m2, m3, -⟩ := rT2 i hil
        have hmem : T.getD i lst0 ∈ T := by
          have : T.getD i lst0 = T[i] := by simp [List.getD, hil]
          rw [this]; exact List.getElem_mem _
        have hct := cnt_take hil
        have hcl := cnt_le (T := T) (i + 1)
        generalize T.getD i lst0 = t at *
        have hP := hPe.out t hmem
        obtain ⟨f, tn, tc, tl⟩ := t
        simp only at c0 c1 c2 c3 q1 q2 q3 m1 m2 m3 hP hct
        have hXA := fun (wx : World) (kx : Keep v4 wx) => of_any aA cA TA TA.length rfl f wx bA.out (RdL.keep rA2 kx)
        have hXB := fun (wx : World) (kx : Keep v4 wx) => of_any aB cB TB TB.length rfl f wx bB.out (RdL.keep rB kx)
        obtain ⟨oA1, oA2, oA3⟩ := hIA.out.all (R := fun c => okT c ∧ 0 ≤ c.tr ∧ c.tr ≤ 65536) hokA.out f
        obtain ⟨oB1, oB2, oB3⟩ := hIB.out.all (R := fun c => okT c ∧ 0 ≤ c.tr ∧ c.tr ≤ 65536) hokB.out f
        obtain ⟨X, hX⟩ : ∃ X, lkp TA f = X := ⟨_, rfl⟩
        obtain ⟨Y, hY⟩ : ∃ Y, lkp TB f = Y := ⟨_, rfl⟩
        have hlA := hIA.out.ls_le f
        have hlB := hIB.out.ls_le f
        rw [hX] at hP oA1 oA2 oA3 hXA hlA
        rw [hY] at hP oB1 oB2 oB3 hXB hlB
        clear hX hY
        obtain ⟨xf, xn, xc, xl⟩ := X
        obtain ⟨yf, yn, yc, yl⟩ := Y
        simp only at hP oA1 oA2 oA3 oB1 oB2 oB3 hlA hlB
        have hlb : Hid (xl.length ≤ 268435456 ∧ yl.length ≤ 268435456) := by
          have h1 := hsum.out
          have h2 := hbnd.out
          exact ⟨by omega, by omega⟩
        clear hlA hlB
        obtain ⟨p1, p2, p3⟩ := hP
        have hln : tn.length = xn.length + yn.length := by rw [p1, mrg_len, List.length_map]
        have hlc : tc.length = xc.length + yc.length := by rw [p2, List.length_append, List.length_map]
        have hll : tl.length = xl.length + yl.length := by rw [p3, List.length_append, List.length_map]
        have hs2 := hbnd.out
        
        obtain ⟨c, hc⟩ : ∃ c, cnt (T.take i) = c := ⟨_, rfl⟩
        rw [hc] at hct ⊢
        obtain ⟨hbn, u1, u2, u3, u4, hcn⟩ := rnd_sums hct hcl hs2 hln hlc
        replace hbn : Hid _ := hbn
        replace hcn : Hid _ := hcn
        have x0 := kw.cell c0
        replace kw : Hid (Keep v4 wr) := kw
        replace p1 : Hid _ := p1
        replace p2 : Hid _ := p2
        replace p3 : Hid _ := p3
        replace hct : Hid _ := hct
        replace hcl : Hid _ := hcl
        replace hil : Hid (i < T.length) := hil
        replace oA1 : Hid _ := oA1
        replace oB1 : Hid _ := oB1
        replace oB2 : Hid _ := oB2
        replace oB3 : Hid _ := oB3
        clear oA2 oA3 hs2 hln hlc hll c0 hmem hc hi
        replace q1 : Hid (RdC v4 na1 tn) := q1
        replace q2 : Hid (RdC v4 ca1 tc) := q2
        replace q3 : Hid (RdC v4 la1 tl) := q3
        replace m1 : Hid _ := m1
        replace m2 : Hid _ := m2
        replace m3 : Hid _ := m3
        replace hXA : Hid _ := hXA
        replace hXB : Hid _ := hXB
        go_upto_region 17 with (first
          | (go_at_call 28; refine (hXA.out wr kw.out).mono ?_; rintro e v5 ⟨na5, nc5, ca5, cc5, la5, lc5, rfl, k5, xa1, xa2, xa3, pa1, -, -⟩; clear hXA))
        obtain ⟨B1, hB1⟩ : ∃ B1, v5.alloc (Obj.cells #[Value.int .i64 f, .slice na5 xn.length nc5, .slice ca5 xc.length cc5, .slice la5 xl.length lc5] 33) = B1 := ⟨_, rfl⟩
        have kB1 : Keep v5 B1 := by rw [← hB1]; exact (Keep.refl v5).alloc _
        have r0 : B1.heap[v5.heap.size]? = some (Obj.cells #[Value.int .i64 f, .slice na5 xn.length nc5, .slice ca5 xc.length cc5, .slice la5 xl.length lc5] 33 (0, 0)) := by rw [← hB1]; exact heap_alloc_new _ _
        have z1 := cell_of_row B1 _ 1 _ 33 (0, 0) r0
        have z2 := cell_of_row B1 _ 2 _ 33 (0, 0) r0
        have z3 := cell_of_row B1 _ 3 _ 33 (0, 0) r0
        simp at z1 z2 z3
        try rw [hB1]
        replace xa1 : Hid (RdC B1 na5 xn) := RdC.keep xa1 kB1
        replace xa2 : Hid (RdC B1 ca5 xc) := RdC.keep xa2 kB1
        replace xa3 : Hid (RdC B1 la5 xl) := RdC.keep xa3 kB1
        obtain ⟨p, hp⟩ : ∃ p, v5.heap.size = p := ⟨_, rfl⟩
        rw [hp] at z1 z2 z3
        try rw [hp]
        replace kB1 : Hid (Keep v4 B1) := Keep.trans (Keep.trans kw.out k5) kB1
        clear hB1 hp r0 k5 x0
        go_upto_region 18 with (first
          | (go_at_call 28; refine (hXB.out _ kB1.out).mono ?_; rintro e v6 ⟨na6, nc6, ca6, cc6, la6, lc6, rfl, k6, ya1, ya2, ya3, -, -, -⟩; clear hXB))
        obtain ⟨B2, hB2⟩ : ∃ B2, v6.alloc (Obj.cells #[Value.int .i64 f, .slice na6 yn.length nc6, .slice ca6 yc.length cc6, .slice la6 yl.length lc6] 33) = B2 := ⟨_, rfl⟩
        have kB2 : Keep v6 B2 := by rw [← hB2]; exact (Keep.refl v6).alloc _
        have r0 : B2.heap[v6.heap.size]? = some (Obj.cells #[Value.int .i64 f, .slice na6 yn.length nc6, .slice ca6 yc.length cc6, .slice la6 yl.length lc6] 33 (0, 0)) := by rw [← hB2]; exact heap_alloc_new _ _
        have t1 := cell_of_row B2 _ 1 _ 33 (0, 0) r0
        have t2 := cell_of_row B2 _ 2 _ 33 (0, 0) r0
        have t3 := cell_of_row B2 _ 3 _ 33 (0, 0) r0
        simp at t1 t2 t3
        try rw [hB2]
        replace ya1 : Hid (RdC B2 na6 yn) := RdC.keep ya1 kB2
        replace ya2 : Hid (RdC B2 ca6 yc) := RdC.keep ya2 kB2
        replace ya3 : Hid (RdC B2 la6 yl) := RdC.keep ya3 kB2
        have kBB := Keep.trans k6 kB2
        replace z1 := kBB.cell z1
        replace z2 := kBB.cell z2
        replace z3 := kBB.cell z3
        replace xa1 : Hid (RdC B2 na5 xn) := RdC.keep xa1.out kBB
        replace xa2 : Hid (RdC B2 ca5 xc) := RdC.keep xa2.out kBB
        replace xa3 : Hid (RdC B2 la5 xl) := RdC.keep xa3.out kBB
        obtain ⟨q, hq⟩ : ∃ q, v6.heap.size = q := ⟨_, rfl⟩
        rw [hq] at t1 t2 t3
        try rw [hq]
        have k42 := Keep.trans kB1.out kBB
        have e1 := k42.cell c1
        have e2 := k42.cell c2
        have e3 := k42.cell c3
        replace k42 : Hid (Keep v4 B2) := k42
        clear hB2 hq r0 k6 kB1 kB2 kBB c1 c2 c3
        go_upto_region 19 with fail
        have hZ : (0 : Int) ≤ ((k : Nat) : Int) ∧ ((k : Nat) : Int) ≤ 65536 := ⟨Int.natCast_nonneg _, Int.ofNat_le.2 hk6.out⟩
        have hN1 := fun (wx : World) (kx : Keep B2 wx) => on_rd na6 nc6 yn yn.length rfl (k : Nat) wx hbn.out.2.1 (RdC.keep ya1.out kx) hZ oB1.out
        have hM1 := fun (wx : World) (b : Option Addr) (cb : Nat) (kx : Keep B2 wx) (rb : RdC wx b (yn.map (shf (k : Nat)))) => mrg_rd na5 b nc5 cb xn (yn.map (shf (k : Nat))) tn xn.length yn.length tn.length rfl (List.length_map _) p1.out rfl wx (by have h1 := hbn.out.1; have h2 := hbn.out.2.1; exact Nat.le_trans (Nat.add_le_add h1 h2) (by decide)) pa1 (RdC.keep xa1.out kx) rb (fun x hx => (oA1.out x hx).1) (fun x hx => by obtain ⟨y, hy, rfl⟩ := List.mem_map.1 hx; exact shf_ok (oB1.out y hy).1)
        have hS1 := fun (wx : World) (b : Option Addr) (cb : Nat) (kx : Keep B2 wx) (rb : RdC wx b tn) => Same_big na1 b nc1 cb tn tn.length rfl wx m1.out (RdC.keep (RdC.keep q1.out k42.out) kx) rb
        have hC2 := fun (wx : World) (kx : Keep B2 wx) => cop_src ca5 cc5 xc xc.length rfl wx hbn.out.2.2.1 (RdC.keep xa2.out kx)
        have hN2 := fun (wx : World) (kx : Keep B2 wx) => on_src ca6 cc6 yc yc.length rfl (k : Nat) wx hbn.out.2.2.2 (RdC.keep ya2.out kx) hZ oB2.out
        have hS2 := fun (wx : World) (b : Option Addr) (cb : Nat) (kx : Keep B2 wx) (rb : RdC wx b tc) => Same_big ca1 b cc1 cb tc tc.length rfl wx m2.out (RdC.keep (RdC.keep q2.out k42.out) kx) rb
        have hC3 := fun (wx : World) (kx : Keep B2 wx) => cop_src la5 lc5 xl xl.length rfl wx hlb.out.1 (RdC.keep xa3.out kx)
        have hN3 := fun (wx : World) (kx : Keep B2 wx) => on_src la6 lc6 yl yl.length rfl (k : Nat) wx hlb.out.2 (RdC.keep ya3.out kx) hZ oB3.out
        have hS3 := fun (wx : World) (b : Option Addr) (cb : Nat) (kx : Keep B2 wx) (rb : RdC wx b tl) => Same_big la1 b lc1 cb tl tl.length rfl wx m3.out (RdC.keep (RdC.keep q3.out k42.out) kx) rb
        have K0 := (Keep.refl B2).drew
        have T0 := mk10 K0 (K0.cell e1) (K0.cell e2) (K0.cell e3) (K0.cell z1) (K0.cell z2) (K0.cell z3) (K0.cell t1) (K0.cell t2) (K0.cell t3)
        have hu4 : Hid _ := u4
        clear u1 u2 u3 u4
        go_region_held3 (fun wx => Keep B2 wx ∧ wx.cell? ⟨b1, o1 + i * 4 + 1, none⟩ = some (Value.slice na1 tn.length nc1) ∧ wx.cell? ⟨b1, o1 + i * 4 + 2, none⟩ = some (Value.slice ca1 tc.length cc1) ∧ wx.cell? ⟨b1, o1 + i * 4 + 3, none⟩ = some (Value.slice la1 tl.length lc1) ∧ wx.cell? ⟨p, 1, none⟩ = some (Value.slice na5 xn.length nc5) ∧ wx.cell? ⟨p, 2, none⟩ = some (Value.slice ca5 xc.length cc5) ∧ wx.cell? ⟨p, 3, none⟩ = some (Value.slice la5 xl.length lc5) ∧ wx.cell? ⟨q, 1, none⟩ = some (Value.slice na6 yn.length nc6) ∧ wx.cell? ⟨q, 2, none⟩ = some (Value.slice ca6 yc.length cc6) ∧ wx.cell? ⟨q, 3, none⟩ = some (Value.slice la6 yl.length lc6)) (first | with_reducible exact T11 | with_reducible exact T10 | with_reducible exact T9 | with_reducible exact T8 | with_reducible exact T7 | with_reducible exact T6 | with_reducible exact T5 | with_reducible exact T4 | with_reducible exact T3 | with_reducible exact T2 | with_reducible exact T1 | with_reducible exact T0) (first
          | (go_at_call 19; refine (hS3 _ _ _ K10 r10).mono ?_; rintro e w31 ⟨rfl, j11⟩; have K11 := K10.trans j11; have T11 := mk10 K11 (K11.cell e1) (K11.cell e2) (K11.cell e3) (K11.cell z1) (K11.cell z2) (K11.cell z3) (K11.cell t1) (K11.cell t2) (K11.cell t3))
          | (refine step_appCsW _ (by rfl) _ _ rfl _ _ _ rfl (OC.own (OC.keep o8 (OC.kp o9.out.1))) (Keep.le (Keep.trans (OC.kp o8) (OC.kp o9.out.1))) _ _ _ rfl o9.out.2.1 o9.out.2.2.2 (OC.fit o8 hlb.out.1 o9.out.2.2.1) ?_; intro v30 w30 hO10 g10; obtain ⟨a30, c30, rfl, j10, r10⟩ := OC.fin o8 o9.out.1 hO10 g10 p3.out rfl; have K10 := K7.trans j10; have T10 := mk10 K10 (K10.cell e1) (K10.cell e2) (K10.cell e3) (K10.cell z1) (K10.cell z2) (K10.cell z3) (K10.cell t1) (K10.cell t2) (K10.cell t3))
          | (go_at_call 30; refine (hN3 _ K8).mono ?_; rintro e w29 ⟨a29, m29, c29, L9, rfl, o9⟩; have K9 := K8.trans o9.out.1.kp; have T9 := mk10 K9 (K9.cell e1) (K9.cell e2) (K9.cell e3) (K9.cell z1) (K9.cell z2) (K9.cell z3) (K9.cell t1) (K9.cell t2) (K9.cell t3))
          | (go_at_call 14; refine (hC3 _ K7).mono ?_; rintro e w28 ⟨v28, L8, rfl, o8⟩; have K8 := K7.trans o8.kp; have T8 := mk10 K8 (K8.cell e1) (K8.cell e2) (K8.cell e3) (K8.cell z1) (K8.cell z2) (K8.cell z3) (K8.cell t1) (K8.cell t2) (K8.cell t3))
          | (go_at_call 19; refine (hS2 _ _ _ K6 r6).mono ?_; rintro e w27 ⟨rfl, j7⟩; have K7 := K6.trans j7; have T7 := mk10 K7 (K7.cell e1) (K7.cell e2) (K7.cell e3) (K7.cell z1) (K7.cell z2) (K7.cell z3) (K7.cell t1) (K7.cell t2) (K7.cell t3))
          | (refine step_appCsW _ (by rfl) _ _ rfl _ _ _ rfl (OC.own (OC.keep o4 (OC.kp o5.out.1))) (Keep.le (Keep.trans (OC.kp o4) (OC.kp o5.out.1))) _ _ _ rfl o5.out.2.1 o5.out.2.2.2 (OC.fit o4 hbn.out.2.2.1 o5.out.2.2.1) ?_; intro v26 w26 hO6 g6; obtain ⟨a26, c26, rfl, j6, r6⟩ := OC.fin o4 o5.out.1 hO6 g6 p2.out rfl; have K6 := K3.trans j6; have T6 := mk10 K6 (K6.cell e1) (K6.cell e2) (K6.cell e3) (K6.cell z1) (K6.cell z2) (K6.cell z3) (K6.cell t1) (K6.cell t2) (K6.cell t3))
          | (go_at_call 30; refine (hN2 _ K4).mono ?_; rintro e w25 ⟨a25, m25, c25, L5, rfl, o5⟩; have K5 := K4.trans o5.out.1.kp; have T5 := mk10 K5 (K5.cell e1) (K5.cell e2) (K5.cell e3) (K5.cell z1) (K5.cell z2) (K5.cell z3) (K5.cell t1) (K5.cell t2) (K5.cell t3))
          | (go_at_call 14; refine (hC2 _ K3).mono ?_; rintro e w24 ⟨v24, L4, rfl, o4⟩; have K4 := K3.trans o4.kp; have T4 := mk10 K4 (K4.cell e1) (K4.cell e2) (K4.cell e3) (K4.cell z1) (K4.cell z2) (K4.cell z3) (K4.cell t1) (K4.cell t2) (K4.cell t3))
          | (go_at_call 19; refine (hS1 _ _ _ K2 r2).mono ?_; rintro e w23 ⟨rfl, j3⟩; have K3 := K2.trans j3; have T3 := mk10 K3 (K3.cell e1) (K3.cell e2) (K3.cell e3) (K3.cell z1) (K3.cell z2) (K3.cell z3) (K3.cell t1) (K3.cell t2) (K3.cell t3))
          | (go_at_call 29; refine (hM1 _ _ _ K1 r1).mono ?_; rintro e w22 ⟨a22, c22, rfl, j2, r2⟩; have K2 := K1.trans j2; have T2 := mk10 K2 (K2.cell e1) (K2.cell e2) (K2.cell e3) (K2.cell z1) (K2.cell z2) (K2.cell z3) (K2.cell t1) (K2.cell t2) (K2.cell t3))
          | (go_at_call 30; refine (hN1 _ K0).mono ?_; rintro e w21 ⟨a21, c21, rfl, j1, r1⟩; have K1 := K0.trans j1; have T1 := mk10 K1 (K1.cell e1) (K1.cell e2) (K1.cell e3) (K1.cell z1) (K1.cell z2) (K1.cell z3) (K1.cell t1) (K1.cell t2) (K1.cell t3)))
        clear T0 T1 T2 T3 T4 T5 T6 T7 T8 T9 T10 T11 hN1 hM1 hS1 hC2 hN2 hS2 hC3 hN3 hS3 r1 r2 r6 r10 o4 o5 o8 o9 hO6 hO10 g6 g10
        go_simp
        go_wp2_with fail
        have hb := bT.out
        have hl2 := hil.out
        rw [wrap_up4 hb hl2]
        exact ⟨⟨i + 1, by rw [hu4.out, hcn.out], rfl, hl2, Keep.trans k42.out K11⟩, by show T.length - (((i + 1 : Nat) : Int)).toNat < T.length - ((i : Int)).toNat; omega⟩
      · have hic : ¬ (i : Int) < (T.length : Int) := by omega
        have hiE : i = T.length := by omega
        rw [hiE, List.take_length]
        have hX : (cnt T : Int) = (cnt T : Int) - (cnt (TA.take 0) : Int) := by rw [List.take_zero, show cnt [] = 0 from rfl]; simp
        clear hic hil hi hiE
        replace rT2 : Hid (RdL v4 aT T) := rT2
        replace kw : Hid (Keep v4 wr) := kw
        go_wp2_with fail
        go_loopw [14, 19] (fun nv iv wr => ∃ (i : Nat), nv = .int .i64 ((cnt T : Int) - (cnt (TA.take i) : Int)) ∧ iv = .int .i64 (i : Int) ∧ i ≤ TA.length ∧ Keep v4 wr) (fun _ iv _ => TA.length - (intOf iv).toNat)
        case atStart => exact ⟨0, congrArg (Value.int .i64) hX, rfl, Nat.zero_le _, kw.out⟩
        case round =>
          obtain ⟨i, rfl, rfl, hi, kw⟩ := hrel
          by_cases hil : i < TA.length
          · have hic : (i : Int) < (TA.length : Int) := by omega
            obtain ⟨b1, o1, na1, nc1, ca1, cc1, la1, lc1, rfl, c0, c1, c2, c3, -⟩ := rA2 i hil
            have hct := cnt_take hil
            have hcl := cnt_le (T := TA) (i + 1)
            have hil2 : Hid (i < TA.length) := hil
            generalize TA.getD i lst0 = t at *
            have x1 := kw.cell c1
            have x2 := kw.cell c2
            have hs1 := hsum.out
            have hs2 := hbnd.out
            obtain ⟨z1, hz1⟩ : ∃ z1, t.ns.length = z1 := ⟨_, rfl⟩
            obtain ⟨z2, hz2⟩ : ∃ z2, t.cs.length = z2 := ⟨_, rfl⟩
            rw [hz1] at x1 hct
            rw [hz2] at x2 hct
            obtain ⟨y, hy⟩ : ∃ y : Int, ((cnt T : Int) - (cnt (TA.take i) : Int)) = y := ⟨_, rfl⟩
            have u1 : wrap64 (y - (z1 : Int)) = y - (z1 : Int) := wrap_sm (by omega) (by omega)
            have u2 : wrap64 (y - (z1 : Int) - (z2 : Int)) = y - (z1 : Int) - (z2 : Int) := wrap_sm (by omega) (by omega)
            have u1' : IntKind.i64.wrap (y - (z1 : Int)) = y - (z1 : Int) := by rw [IntWalk.i64_left]; exact u1
            have u2' : IntKind.i64.wrap (y - (z1 : Int) - (z2 : Int)) = y - (z1 : Int) - (z2 : Int) := by rw [IntWalk.i64_left]; exact u2
            have hfin : Hid (y - (z1 : Int) - (z2 : Int) = (cnt T : Int) - (cnt (TA.take (i + 1)) : Int)) := by show _ = _; omega
            rw [hy]
            replace hct : Hid _ := hct
            replace hcl : Hid _ := hcl
            replace kw : Hid (Keep v4 wr) := kw
            clear hz1 hz2 hy c0 c1 c2 c3 hs1 hs2
            go_wp2_with fail
            go_quiet (fail)
            have kd : Keep wr (wr.drewN nq) := (Keep.refl wr).drewN nq
            generalize wr.drewN nq = W at *
            go_wp2_with fail
            have hb := bA.out
            have hl2 := hil2.out
            rw [wrap_up4 hb hl2]
            exact ⟨⟨i + 1, by rw [hfin.out], rfl, hl2, Keep.trans kw.out kd⟩, by show TA.length - (((i + 1 : Nat) : Int)).toNat < TA.length - ((i : Int)).toNat; omega⟩
          · have hic : ¬ (i : Int) < (TA.length : Int) := by omega
            have hiE : i = TA.length := by omega
            rw [hiE, List.take_length]
            clear hic hil hi hiE
            replace kw : Hid (Keep v4 wr) := kw
            go_wp2_with fail
            go_loopw [14, 20] (fun nv iv wr => ∃ (i : Nat), nv = .int .i64 ((cnt T : Int) - (cnt TA : Int) - (cnt (TB.take i) : Int)) ∧ iv = .int .i64 (i : Int) ∧ i ≤ TB.length ∧ Keep v4 wr) (fun _ iv _ => TB.length - (intOf iv).toNat)
            case atStart => exact ⟨0, by rw [List.take_zero, show cnt [] = 0 from rfl]; simp, rfl, Nat.zero_le _, kw.out⟩
            case round =>
              obtain ⟨i, rfl, rfl, hi, kw⟩ := hrel
              by_cases hil : i < TB.length
              · have hic : (i : Int) < (TB.length : Int) := by omega
                obtain ⟨b1, o1, na1, nc1, ca1, cc1, la1, lc1, rfl, c0, c1, c2, c3, -⟩ := rB i hil
                have hct := cnt_take hil
                have hcl := cnt_le (T := TB) (i + 1)
                have hil2 : Hid (i < TB.length) := hil
                generalize TB.getD i lst0 = t at *
                have x1 := kw.cell c1
                have x2 := kw.cell c2
                have hs1 := hsum.out
                have hs2 := hbnd.out
                obtain ⟨z1, hz1⟩ : ∃ z1, t.ns.length = z1 := ⟨_, rfl⟩
                obtain ⟨z2, hz2⟩ : ∃ z2, t.cs.length = z2 := ⟨_, rfl⟩
                rw [hz1] at x1 hct
                rw [hz2] at x2 hct
                obtain ⟨y, hy⟩ : ∃ y : Int, ((cnt T : Int) - (cnt TA : Int) - (cnt (TB.take i) : Int)) = y := ⟨_, rfl⟩
                have u1 : wrap64 (y - (z1 : Int)) = y - (z1 : Int) := wrap_sm (by omega) (by omega)
                have u2 : wrap64 (y - (z1 : Int) - (z2 : Int)) = y - (z1 : Int) - (z2 : Int) := wrap_sm (by omega) (by omega)
                have u1' : IntKind.i64.wrap (y - (z1 : Int)) = y - (z1 : Int) := by rw [IntWalk.i64_left]; exact u1
                have u2' : IntKind.i64.wrap (y - (z1 : Int) - (z2 : Int)) = y - (z1 : Int) - (z2 : Int) := by rw [IntWalk.i64_left]; exact u2
                have hfin : Hid (y - (z1 : Int) - (z2 : Int) = (cnt T : Int) - (cnt TA : Int) - (cnt (TB.take (i + 1)) : Int)) := by show _ = _; omega
                rw [hy]
                replace hct : Hid _ := hct
                replace hcl : Hid _ := hcl
                replace kw : Hid (Keep v4 wr) := kw
                clear hz1 hz2 hy c0 c1 c2 c3 hs1 hs2
                go_wp2_with fail
                go_quiet (fail)
                have kd : Keep wr (wr.drewN nq) := (Keep.refl wr).drewN nq
                generalize wr.drewN nq = W at *
                go_wp2_with fail
                have hb := bB.out
                have hl2 := hil2.out
                rw [wrap_up4 hb hl2]
                exact ⟨⟨i + 1, by rw [hfin.out], rfl, hl2, Keep.trans kw.out kd⟩, by show TB.length - (((i + 1 : Nat) : Int)).toNat < TB.length - ((i : Int)).toNat; omega⟩
              · have hic : ¬ (i : Int) < (TB.length : Int) := by omega
                have hiE : i = TB.length := by omega
                rw [hiE, List.take_length]
                clear hic hil hi hiE
                replace kw : Hid (Keep v4 wr) := kw
                have hz : (cnt T : Int) - (cnt TA : Int) - (cnt TB : Int) = 0 := by have := hsum.out; omega
                rw [hz]
                go_wp2_with fail
                go_ret
                exact ⟨rfl, Keep.trans kW.out kw.out⟩
  · have hOr := hof.out.2 hE0
    have x1 : (E != 0) = true := bne_iff_ne.2 hE0
    clear hT0 hT1 hA0 hA1 hB0 hB1 hof HE rA2 rT2 rB
    by_cases h1 : EA = 0
    · have x2 : (EA != 0) = false := by rw [bne_eq_false_iff_eq]; exact h1
      by_cases h2 : EB = 0
      · have x3 : (EB != 0) = false := by rw [bne_eq_false_iff_eq]; exact h2
        have h3 : 65536 < n := by
          rcases hOr with q | q | q
          · exact absurd h1 q
          · exact absurd h2 q
          · exact q
        have x4 : (65536 : Int) < (n : Int) := by exact Int.ofNat_lt.2 h3
        replace h1 : Hid _ := h1
        replace h2 : Hid _ := h2
        replace hE0 : Hid _ := hE0
        clear hOr HN h3
        go_wp2_with fail
        go_ret
        exact ⟨rfl, kW.out⟩
      · have x3 : (EB != 0) = true := bne_iff_ne.2 h2
        replace h1 : Hid _ := h1
        replace hE0 : Hid _ := hE0
        clear hOr HN h2
        go_wp2_with fail
        go_ret
        exact ⟨rfl, kW.out⟩
    · have x2 : (EA != 0) = true := bne_iff_ne.2 h1
      replace hE0 : Hid _ := hE0
      clear hOr HN h1
      go_wp2_with fail
      go_ret
      exact ⟨rfl, kW.out⟩
end Go.Proofs.Ytaogjiffnebnkaa
