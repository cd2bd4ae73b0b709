import Derived.Test.YtpdjpjkieafnbaaGreatDoorRQ1
set_option linter.unusedVariables false
set_option linter.unusedSimpArgs false
namespace Go.Proofs.YtpdjpjkieafnbaaGreatDoor.Li
open Go.RowKit Lb Nr
theorem one_gen (k : Nat) (h : k ≠ 0) : 1 < 4294967296 ^ k := Nat.one_lt_pow h (by decide)
theorem one_lim : 1 < 4294967296 ^ 1000 := one_gen 1000 (by decide)
theorem up_gen (a b : Nat) (h : a ≤ b) : (4294967296 : Nat) ^ a ≤ 4294967296 ^ b := Nat.pow_le_pow_right (by decide) h
theorem lim_up : (4294967296 : Nat) ^ 512 ≤ 4294967296 ^ 1000 := up_gen 512 1000 (by decide)
theorem bn_gen (b : Nat) (hb : b ≤ 16) (l : List UInt8) (k : Nat) (h : l.length ≤ k) : bn b l < 16 ^ k := Nat.lt_of_lt_of_le (bn_lt b hb l) (Nat.pow_le_pow_right (by decide) h)
theorem pow10_gen (n k : Nat) (h : n ≤ 9 * k) : 10 ^ n ≤ 4294967296 ^ k := by
  refine Nat.le_trans (Nat.pow_le_pow_right (by decide) h) ?_
  rw [Nat.pow_mul]
  exact Nat.pow_le_pow_left (by decide) _
theorem pow2_gen (n k : Nat) (h : n ≤ 32 * k) : 2 ^ n ≤ 4294967296 ^ k := by
  refine Nat.le_trans (Nat.pow_le_pow_right (by decide) h) ?_
  rw [Nat.pow_mul]
  exact Nat.pow_le_pow_left (by decide) _
theorem dD_lt (n : Nat) : n < 10 ^ (dD n).length := by
  have := nat_lt (dD_d n n (Nat.le_refl _))
  rw [dD_nat n n (Nat.le_refl _)] at this
  exact this
theorem bnd_dD {N D : Nat} (hD : (dD N).length = D) (k : Nat) (hk : k ≤ 4096) (h : N < 16 ^ k) : D ≤ 16384 := by
  rw [← hD]
  refine Nat.le_trans (dD_len (2 * k) N (Nat.lt_of_lt_of_le h ?_)) (by omega)
  refine Nat.le_trans ?_ (Nat.pow_le_pow_right (by decide) (Nat.le_succ _))
  rw [Nat.pow_mul]
  exact Nat.pow_le_pow_left (by decide) _
theorem bnd_sz {N D : Nat} (hD : sz N = D) (k : Nat) (hk : k ≤ 4096) (h : N < 16 ^ k) : D ≤ 16384 := by
  rw [← hD]
  have : sz N ≤ 4 * k := sz_le (by rw [Nat.pow_mul]; exact h)
  omega
theorem bnd_dec {N D : Nat} (k K : Nat) (hk : k ≤ 4096) (hK : 1000 ≤ K) (hD : (dD N).length = D) (h : N < 16 ^ k) : (∀ m, D + m ≤ 600 → N * 10 ^ m < 4294967296 ^ K) ∧ ∀ m, m ≤ 600 + D → 1 * 10 ^ m < 4294967296 ^ K := by
  have hDk : D ≤ 2 * k + 1 := by
    rw [← hD]
    refine dD_len (2 * k) N (Nat.lt_of_lt_of_le h ?_)
    refine Nat.le_trans ?_ (Nat.pow_le_pow_right (by decide) (Nat.le_succ _))
    rw [Nat.pow_mul]
    exact Nat.pow_le_pow_left (by decide) _
  have hN : N < 10 ^ D := by rw [← hD]; exact dD_lt N
  refine ⟨fun m hm => ?_, fun m hm => ?_⟩
  · refine Nat.lt_of_lt_of_le (Nat.mul_lt_mul_of_pos_right hN (Nat.pow_pos (by decide))) ?_
    rw [← Nat.pow_add]
    exact pow10_gen _ _ (by omega)
  · rw [Nat.one_mul]
    refine Nat.lt_of_lt_of_le (Nat.pow_lt_pow_right (by decide) (Nat.lt_succ_self m)) (pow10_gen _ _ (by omega))
theorem bnd_hex {N D : Nat} (k K : Nat) (hk : k ≤ 4096) (hK : 1000 ≤ K) (hD : sz N = D) (h : N < 16 ^ k) : (∀ m, D + m ≤ 2000 → N * 2 ^ m < 4294967296 ^ K) ∧ ∀ m, m ≤ 2000 + D → 1 * 2 ^ m < 4294967296 ^ K := by
  have hDk : D ≤ 4 * k := by rw [← hD]; exact sz_le (by rw [Nat.pow_mul]; exact h)
  have hN : N < 2 ^ D := by rw [← hD]; exact sz_lt N
  refine ⟨fun m hm => ?_, fun m hm => ?_⟩
  · refine Nat.lt_of_lt_of_le (Nat.mul_lt_mul_of_pos_right hN (Nat.pow_pos (by decide))) ?_
    rw [← Nat.pow_add]
    exact pow2_gen _ _ (by omega)
  · rw [Nat.one_mul]
    refine Nat.lt_of_lt_of_le (Nat.pow_lt_pow_right (by decide) (Nat.lt_succ_self m)) (pow2_gen _ _ (by omega))
theorem shl_bn (l : List UInt8) (i : Nat) (h : i < l.length) (b : Nat) (hb : b ≤ 16) (hl : l.length ≤ 4096) : bn b (l.take i) < 4294967296 ^ 512 := by
  refine Nat.lt_of_lt_of_le (bn_lt b hb _) (pow16_lim _ ?_)
  rw [List.length_take]
  omega
theorem isX_dg {hx : Bool} {c : UInt8} (h : isX hx c = true) : dgO c.toNat = (hv c : Int) := by
  unfold isX at h
  have h2 := of_decide_eq_true (Bool.and_eq_true_iff.1 h).1
  unfold hv
  omega
theorem Nv.one {w : World} : Nv (w.alloc (.cells #[.int .u32 1] 40)) (.slice (some ⟨w.heap.size, 0, none⟩) 1 1) 1 := by
  refine ⟨some ⟨w.heap.size, 0, none⟩, 1, [1], rfl, Nat.le_refl _, ?_, ?_, ?_, rfl⟩
  · have h : Row (w.alloc (.cells #[.int .u32 1] 40)) w.heap.size [1] := heap_alloc_new w _
    exact h.rd0
  · intro x hx
    simp at hx
    omega
  · simp [Nrm]
set_option maxRecDepth 100000 in
set_option maxHeartbeats 2000000 in
/-- A right decimal. -/
theorem rRead_dec (fa fb fc : Int) (Q : Nat → Nat → Bool → Nat → Int → Prop) (hQ : NearOk fa fb fc Q) (s : List UInt8) (w : World) (hs : s.length ≤ 4096) (hok : cOk s = true) (hhx : cHx s = false) :
    Calls Tryz.prog 13 #[.string ⟨s.toArray⟩, .agg #[.int .i64 fa, .int .i64 fb, .int .i64 fc]] w fun r w' => ∃ inf M E, r = .returned (.tuple #[numA (cNg s) inf false M E, .int .i64 0, .int .i64 0]) ∧ RNq Q 600 (rdN s) (((dD (rdN s)).length : Int) + (pcN (cNP s) (cDP s) - ((cPt s).length : Int))) (rdN s * 10 ^ (pcN (cNP s) (cDP s) - ((cPt s).length : Int)).toNat) (10 ^ (-(pcN (cNP s) (cDP s) - ((cPt s).length : Int))).toNat) inf M E ∧ Keep w w' := by
  have hTT : ∀ T V, SpA s T V → T = nmT false false false false (cNg s) false (cWh s) (cPt s) (cPw s) ∧ V = -1 := by
    intro T V hA
    obtain ⟨m1, m2, m3⟩ := not_word hok
    rcases hA with ⟨-, -, q, -⟩ | ⟨q, -⟩ | ⟨q, -⟩ | ⟨q, -⟩ | ⟨-, a, b⟩
    · rw [hok] at q; cases q
    · exact absurd q m1
    · exact absurd q m2
    · exact absurd q m3
    · rw [hhx] at b; exact ⟨b, a⟩
  obtain ⟨l1, l2⟩ := cl_all s
  obtain ⟨p1, p2, p3⟩ := pw_sign hok
  have hX : ∀ c ∈ cWh s ++ cPt s, isX false c = true := fun c hc => by rw [isX_dec]; exact ((cWh_d hhx).app (cPt_d hhx)) c hc
  have hNN : Hid (bn 10 (cWh s ++ cPt s) = rdN s) := bn_dec ((cWh_d hhx).app (cPt_d hhx))
  have hP := fun wx => rpower_any (cPw s) wx (by omega) (cNP s) p1 _ p2
  have epc : Hid (pcN (cNP s) (cDP s) = if cNP s then -((min (nat (cDP s)) 100000 : Nat) : Int) else ((min (nat (cDP s)) 100000 : Nat) : Int)) := rfl
  have hppc : -100000 ≤ pcN (cNP s) (cDP s) ∧ pcN (cNP s) (cDP s) ≤ 100000 := by
    have : min (nat (cDP s)) 100000 ≤ 100000 := Nat.min_le_right _ _
    unfold pcN
    split <;> omega
  rw [← epc.out] at hP
  generalize pcN (cNP s) (cDP s) = pc at *
  generalize rdN s = N at *
  clear p1 p2 p3 epc
  have lpt : (cPt s).length ≤ 4096 := by rw [List.length_append] at l1; omega
  have lwh : (cWh s).length ≤ 4096 := by rw [List.length_append] at l1; omega
  generalize cNg s = ng at *
  generalize cWh s = wh at *
  generalize cPt s = pt at *
  generalize cPw s = pw at *
  clear hok hhx l2
  obtain ⟨P, hPe⟩ : ∃ P : Int, pc - (pt.length : Int) = P := ⟨_, rfl⟩
  rw [hPe]
  have hPb : -120000 ≤ P ∧ P ≤ 100000 := by omega
  obtain ⟨D, hDe⟩ : ∃ D : Nat, (dD N).length = D := ⟨_, rfl⟩
  rw [hDe]
  have hS := fun wx => Split_any s wx hs
  have hsz : (ByteArray.mk s.toArray).size = s.length := sz_mk s
  have e0 : decide ((4096 : Int) < (s.length : Int)) = false := decide_eq_false (by omega)
  obtain ⟨w1, hw1, K1, F1, R1⟩ : ∃ w1, (w.alloc (Obj.cells #[.int .i64 fa, .int .i64 fb, .int .i64 fc] 32)).alloc (Obj.cells #[.bool false, .bool false, .bool false, .int .u64 0, .int .i64 0] 28) = w1 ∧ Keep w w1 ∧ B3 w1 w.heap.size fa fb fc ∧ B5 w1 (w.heap.size + 1) (.bool false) (.bool false) (.bool false) (.int .u64 0) (.int .i64 0) := by
    refine ⟨_, rfl, ((Keep.refl w).alloc _).alloc _, ?_, ?_⟩
    · have a : B3 (w.alloc (Obj.cells #[.int .i64 fa, .int .i64 fb, .int .i64 fc] 32)) w.heap.size fa fb fc := heap_alloc_new w _
      exact a.keep ((Keep.refl _).alloc _)
    · have a := heap_alloc_new (w.alloc (Obj.cells #[.int .i64 fa, .int .i64 fb, .int .i64 fc] 32)) (Obj.cells #[.bool false, .bool false, .bool false, .int .u64 0, .int .i64 0] 28)
      have e : (w.alloc (Obj.cells #[.int .i64 fa, .int .i64 fb, .int .i64 fc] 32)).heap.size = w.heap.size + 1 := by simp
      rw [e] at a
      exact a
  go_enter Tryz.func13, Tryz.ntmps13
  go_wp2_with fail
  refine (hS _).mono ?_
  clear hS
  rintro e w2 ⟨⟨T, V, rfl, hA⟩, k2⟩
  obtain ⟨hT, hV⟩ := hTT T V hA
  clear hTT hA
  unfold nmT at hT
  subst hT
  subst hV
  obtain ⟨w3, hw3⟩ : ∃ w3, w2.alloc (.cells #[.bool false, .bool false, .bool false, .int .u64 0, .int .i64 0, .bool false, .bool ng, .bool false, .string ⟨wh.toArray⟩, .string ⟨pt.toArray⟩, .string ⟨pw.toArray⟩] 89) = w3 := ⟨_, rfl⟩
  have k23 : Keep w2 w3 := by rw [← hw3]; exact (Keep.refl w2).alloc _
  have T3 : Bk w3 w2.heap.size #[.bool false, .bool false, .bool false, .int .u64 0, .int .i64 0, .bool false, .bool ng, .bool false, .string ⟨wh.toArray⟩, .string ⟨pt.toArray⟩, .string ⟨pw.toArray⟩] := by rw [← hw3]; exact Bk.new w2 _
  have HT3 : Hid (Bk w3 w2.heap.size #[.bool false, .bool false, .bool false, .int .u64 0, .int .i64 0, .bool false, .bool ng, .bool false, .string ⟨wh.toArray⟩, .string ⟨pt.toArray⟩, .string ⟨pw.toArray⟩]) := T3
  have R3 := (R1.keep k2).keep k23
  have HR3 : Hid (B5 w3 (w.heap.size + 1) (.bool false) (.bool false) (.bool false) (.int .u64 0) (.int .i64 0)) := R3
  have HF3 : Hid (B3 w3 w.heap.size fa fb fc) := (F1.keep k2).keep k23
  have HK3 : Hid (Keep w w3) := (K1.trans k2).trans k23
  obtain ⟨c0, c1, c2, c3, c4, c5, c6, c7, c8, c9, c10⟩ := T3.eleven
  obtain ⟨f0, f1, f2, f3, f4⟩ := R3.frs
  obtain ⟨r0, r1, r2, r3, r4⟩ := R3.five
  clear R3 T3 k23 k2 K1 F1 R1
  obtain ⟨d, hd⟩ : ∃ d, wh ++ pt = d := ⟨_, rfl⟩
  rw [hd] at l1 hX hNN
  have hadd : (⟨wh.toArray⟩ : ByteArray) ++ ⟨pt.toArray⟩ = ⟨d.toArray⟩ := by
    rw [← hd]
    apply ByteArray.ext
    simp
  have hdl : d.length ≤ 4096 := by omega
  have hszd : (ByteArray.mk d.toArray).size = d.length := sz_mk d
  have hszw : (ByteArray.mk wh.toArray).size = wh.length := sz_mk wh
  have hszp : (ByteArray.mk pt.toArray).size = pt.length := sz_mk pt
  have HX : Hid (∀ c ∈ d, isX false c = true) := hX
  clear hd l1 hX
  go_wp2_with fail
  go_loopg [10, 12] (d.length) (fun g v10 v12 wx => ∃ i : Nat, i + g = d.length ∧ v12 = .int .i64 (i : Int) ∧ Nv wx v10 (bn 10 (d.take i)) ∧ Keep w3 wx)
  case atStart => exact ⟨0, by omega, rfl, ⟨none, 0, [], rfl, Nat.le_refl _, Rd.nil _ _, by intro x hx; simp at hx, by simp [Nrm], rfl⟩, Keep.refl _⟩
  case round =>
    obtain ⟨i, hig, rfl, hv, hkp⟩ := hrel
    have HV : Hid (Nv wr _ (bn 10 (d.take i))) := hv
    have KP : Hid (Keep w3 wr) := hkp
    clear hv hkp
    by_cases hil : i < d.length
    · have d1 : decide ((i : Int) < (d.length : Int)) = true := decide_eq_true (by omega)
      have hix := fun wx => run_ix d i hil wx
      have hxc := HX.out (d.getD i 0) (by rw [show d.getD i 0 = d[i] by simp [List.getD, hil]]; exact List.getElem_mem _)
      have hstep : Hid (bn 10 (d.take (i + 1)) = 10 * bn 10 (d.take i) + hv (d.getD i 0)) := bn_step 10 d i hil
      have hbl := shl_bn d i hil 10 (by omega) hdl
      have hdg := isX_dg hxc
      have hh := fun wx => hexv_any (d.getD i 0) wx
      rw [hdg] at hh
      have h15 := hv_lt (d.getD i 0)
      have hTm := fun wx (kx : Keep wr wx) => times_nv _ (bn 10 (d.take i)) 512 10 (hv (d.getD i 0)) wx (HV.out.keep kx) hbl (by omega) (by omega) (by omega)
      have hTm : Hid (∀ wx, Keep wr wx → Calls Tryz.prog 47 #[_, .int .u32 10, .int .u32 _] wx _) := hTm
      generalize hv (d.getD i 0) = z at *
      generalize d.getD i 0 = c at *
      clear hxc hdg hbl c0 c1 c2 c3 c4 c5 c6 c7 c8 c9 c10 f0 f1 f2 f3 f4 r0 r1 r2 r3 r4
      go_wp2_with (first
        | (go_at_call 48; refine (hh _).mono ?_; rintro e wa ⟨rfl, rfl⟩)
        | (go_at_call 47; refine (hTm.out _ (Keep.refl _)).mono ?_; rintro e wb ⟨vb, rfl, nb, kb⟩))
      go_roundg (gk - 1)
      case measure => omega
      case rel => exact ⟨i + 1, by omega, by simp, by rw [hstep.out]; exact nb, KP.out.trans kb⟩
    · have hii : i = d.length := by omega
      subst hii
      have d1 : decide ((d.length : Int) < (d.length : Int)) = false := decide_eq_false (by omega)
      rw [List.take_length, hNN.out] at HV
      have T4 := HT3.out.keep KP.out
      have R4 := HR3.out.keep KP.out
      have HK4 : Hid (Keep w wr) := HK3.out.trans KP.out
      have HR4 : Hid (B5 wr (w.heap.size + 1) (.bool false) (.bool false) (.bool false) (.int .u64 0) (.int .i64 0)) := R4
      have HF4 : Hid (B3 wr w.heap.size fa fb fc) := HF3.out.keep KP.out
      have HT4 : Hid (Bk wr w2.heap.size #[.bool false, .bool false, .bool false, .int .u64 0, .int .i64 0, .bool false, .bool ng, .bool false, .string ⟨wh.toArray⟩, .string ⟨pt.toArray⟩, .string ⟨pw.toArray⟩]) := T4
      have hNlt : N < 4294967296 ^ 512 := by
        rw [← hNN.out]
        exact Nat.lt_of_lt_of_le (bn_lt 10 (by omega) d) (pow16_lim _ hdl)
      have hN16 : N < 16 ^ 4096 := by
        rw [← hNN.out]
        exact bn_gen 10 (by omega) d 4096 hdl
      clear c0 c1 c2 c3 c4 c5 c6 c7 c8 c9 c10 f0 f1 f2 f3 f4 r0 r1 r2 r3 r4 HT3 HR3 HF3 hw3 KP
      obtain ⟨c0, c1, c2, c3, c4, c5, c6, c7, c8, c9, c10⟩ := T4.eleven
      obtain ⟨f0, f1, f2, f3, f4⟩ := R4.frs
      obtain ⟨r0, r1, r2, r3, r4⟩ := R4.five
      clear T4 R4 hNN HX
      by_cases hN0 : N = 0
      · subst hN0
        obtain ⟨a, c, rfl⟩ := HV.out.zero
        go_wp2_with fail
        exact bodyPost_ret (results_box5 rfl _ _ (w.heap.size + 1) _ _ _ _ _ rfl (HR4.out.all _ _ _ _ _)) rfl ⟨false, 0, 0, rfl, .inl ⟨rfl, rfl, rfl, rfl⟩, HK4.out.all5 (Nat.le_succ _) _ _ _ _ _⟩
      · have hNp : 0 < N := by omega
        obtain ⟨a, c, l, rfl, hc, hr, hm, hvl, hl0, hlk⟩ := HV.out.pos hNp hNlt
        have hz1 : ((l.length : Int) == 0) = false := by
          rw [beq_eq_false_iff_ne]
          have := List.length_pos_iff.2 hl0
          omega
        clear hc hr hm hvl hl0 hlk hN0
        have HNlt : Hid (N < 4294967296 ^ 512) := hNlt
        have HN16 : Hid (N < 16 ^ 4096) := hN16
        clear hNlt hN16
        obtain ⟨w5, hw5⟩ : ∃ w5, wr.alloc (.cells #[.int .u32 1] 40) = w5 := ⟨_, rfl⟩
        have k45 : Keep wr w5 := by rw [← hw5]; exact (Keep.refl wr).alloc _
        have hone : Nv w5 (.slice (some ⟨wr.heap.size, 0, none⟩) 1 1) 1 := by rw [← hw5]; exact Nv.one
        have HV5 : Hid (Nv w5 (.slice a l.length c) N) := HV.out.keep k45
        have HO5 : Hid (Nv w5 (.slice (some ⟨wr.heap.size, 0, none⟩) 1 1) 1) := hone
        have HK5 : Hid (Keep w w5) := HK4.out.trans k45
        have HR5 : Hid (B5 w5 (w.heap.size + 1) (.bool false) (.bool false) (.bool false) (.int .u64 0) (.int .i64 0)) := HR4.out.keep k45
        have HF5 : Hid (B3 w5 w.heap.size fa fb fc) := HF4.out.keep k45
        have HT5 : Hid (Bk w5 w2.heap.size #[.bool false, .bool false, .bool false, .int .u64 0, .int .i64 0, .bool false, .bool ng, .bool false, .string ⟨wh.toArray⟩, .string ⟨pt.toArray⟩, .string ⟨pw.toArray⟩]) := HT4.out.keep k45
        obtain ⟨u0, u1, u2, u3, u4, u5, u6, u7, u8, u9, u10⟩ := HT5.out.eleven
        clear k45 hone HV HR4 HF4 HT4 HK4
        go_wp2_with (go_at_call 49; refine (hP _).mono ?_; rintro e wp ⟨rfl, rfl⟩)
        clear c0 c1 c2 c3 c4 c5 c6 c7 c8 c9 c10 f0 f1 f2 f3 f4 r0 r1 r2 r3 r4 u0 u1 u2 u3 u4 u5 u6 u7 u8 u9 u10
        refine (decimal_nv _ N 512 w5 HV5.out HNlt.out (by omega)).mono ?_
        rintro e w6 ⟨rfl, k6⟩
        have hszD : (ByteArray.mk (dD N).toArray).size = D := by rw [sz_mk, hDe]
        have HT6 : Hid (Bk w6 w2.heap.size #[.bool false, .bool false, .bool false, .int .u64 0, .int .i64 0, .bool false, .bool ng, .bool false, .string ⟨wh.toArray⟩, .string ⟨pt.toArray⟩, .string ⟨pw.toArray⟩]) := HT5.out.keep k6
        have HR6 : Hid (B5 w6 (w.heap.size + 1) (.bool false) (.bool false) (.bool false) (.int .u64 0) (.int .i64 0)) := HR5.out.keep k6
        have HF6 : Hid (B3 w6 w.heap.size fa fb fc) := HF5.out.keep k6
        have HK6 : Hid (Keep w w6) := HK5.out.trans k6
        obtain ⟨u0, u1, u2, u3, u4, u5, u6, u7, u8, u9, u10⟩ := HT6.out.eleven
        obtain ⟨g0, g1, g2, g3, g4⟩ := HR6.out.frs
        obtain ⟨q0, q1, q2, q3, q4⟩ := HR6.out.five
        obtain ⟨y0, y1, y2⟩ := HF6.out.three
        have HV6 : Hid (Nv w6 (.slice a l.length c) N) := HV5.out.keep k6
        have HO6 : Hid (Nv w6 (.slice (some ⟨wr.heap.size, 0, none⟩) 1 1) 1) := HO5.out.keep k6
        have HNp : Hid (0 < N) := hNp
        have HDe : Hid ((dD N).length = D) := hDe
        obtain ⟨hB1, hB2⟩ := bnd_dec 4096 1000 (Nat.le_refl _) (Nat.le_refl _) hDe HN16.out
        have hDl : D ≤ 16384 := bnd_dD hDe 4096 (Nat.le_refl _) HN16.out
        have HB1 : Hid (∀ m, D + m ≤ 600 → N * 10 ^ m < 4294967296 ^ 1000) := hB1
        have HB2 : Hid (∀ m, m ≤ 600 + D → 1 * 10 ^ m < 4294967296 ^ 1000) := hB2
        clear hB1 hB2 hNp hDe
        by_cases z1 : 600 < (D : Int) + P
        · have b1 : decide ((600 : Int) < (D : Int) + P) = true := decide_eq_true z1
          go_wp2_with fail
          exact bodyPost_ret (results_box5 rfl _ _ (w.heap.size + 1) _ _ _ _ _ rfl (HR6.out.all _ _ _ _ _)) rfl ⟨true, 0, 0, rfl, .inr ⟨HNp.out, .inl ⟨z1, rfl, rfl, rfl⟩⟩, HK6.out.all5 (Nat.le_succ _) _ _ _ _ _⟩
        · have b1 : decide ((600 : Int) < (D : Int) + P) = false := decide_eq_false z1
          by_cases z2 : (D : Int) + P < -600
          · have b2 : decide ((D : Int) + P < -600) = true := decide_eq_true z2
            go_wp2_with fail
            exact bodyPost_ret (results_box5 rfl _ _ (w.heap.size + 1) _ _ _ _ _ rfl (HR6.out.all _ _ _ _ _)) rfl ⟨false, 0, 0, rfl, .inr ⟨HNp.out, .inr (.inl ⟨z2, rfl, rfl, rfl⟩)⟩, HK6.out.all5 (Nat.le_succ _) _ _ _ _ _⟩
          · have b2 : decide ((D : Int) + P < -600) = false := decide_eq_false z2
            by_cases z3 : 0 ≤ P
            · have b3 : decide ((0 : Int) ≤ P) = true := decide_eq_true z3
              obtain ⟨m, hm⟩ : ∃ m : Nat, P = (m : Int) := ⟨P.toNat, by omega⟩
              have hbound : Hid (N * 10 ^ m < 4294967296 ^ 1000) := HB1.out m (by omega)
              have hL := fun wx (kx : Keep w6 wx) => ten_nv (.slice a l.length c) (N) m 1000 wx (HV6.out.keep kx) hbound.out (by omega) (by omega)
              have eQ : Hid (∀ inf M E, Q (N * 10 ^ m) 1 inf M E → Q (N * 10 ^ P.toNat) (10 ^ (-P).toNat) inf M E) := by
                intro inf M E h
                rw [hm, Int.toNat_natCast, show (-(m : Int)).toNat = 0 by omega, Nat.pow_zero]
                exact h
              replace hL : Hid (∀ wx, Keep w6 wx → Calls Tryz.prog 53 #[_, .int .i64 (m : Int)] wx fun e w' => ∃ v', e = .returned v' ∧ Nv w' v' _ ∧ Keep wx w') := hL
              have hone : Hid (1 < 4294967296 ^ 1000) := one_lim
              have hnl : Hid (N < 4294967296 ^ 1000) := Nat.lt_of_lt_of_le HNlt.out lim_up
              replace hQ : Hid (NearOk fa fb fc Q) := hQ
              go_wp2_with (go_at_call 53; refine (hL.out _ (Keep.refl _)).mono ?_; rintro e w7 ⟨v7, rfl, n7, k7⟩; obtain ⟨x0, x1, x2⟩ := (HF6.out.keep k7).three)
              refine (hQ.out v7 (.slice (some ⟨wr.heap.size, 0, none⟩) 1 1) (N * 10 ^ m) 1 w7 n7 (HO6.out.keep k7) hbound.out hone.out (Nat.mul_pos HNp.out (Nat.pow_pos (by decide))) (by decide)).mono ?_
              rintro e w8 ⟨inf, M, E, rfl, hq, k8⟩
              unfold numA
              have HQ8 : Hid (Q _ _ inf M E) := eQ.out inf M E hq
              clear hq hL
              clear u0 u1 u2 u3 u4 u5 u6 u7 u8 u9 u10 g0 g1 g2 g3 g4 q0 q1 q2 q3 q4 y0 y1 y2 x0 x1 x2
              have k68 := k7.trans k8
              obtain ⟨w9, hw9⟩ : ∃ w9, w8.alloc (.cells #[.bool false, .bool inf, .bool false, .int .u64 (M : Nat), .int .i64 E] 28) = w9 := ⟨_, rfl⟩
              have k89 : Keep w8 w9 := by rw [← hw9]; exact (Keep.refl w8).alloc _
              have N9 : B5 w9 w8.heap.size (.bool false) (.bool inf) (.bool false) (.int .u64 (M : Nat)) (.int .i64 E) := by rw [← hw9]; exact heap_alloc_new w8 _
              have T9 := (HT6.out.keep k68).keep k89
              have R9 := (HR6.out.keep k68).keep k89
              have hlt8 : w.heap.size + 1 < w8.heap.size := (HR6.out.keep k68).lt
              have hlt82 : w2.heap.size < w8.heap.size := (HT6.out.keep k68).lt
              obtain ⟨w10, hw10⟩ : ∃ w10, w9.setCell ⟨w8.heap.size, 0, none⟩ (.bool ng) = w10 := ⟨_, rfl⟩
              have N10 : B5 w10 w8.heap.size (.bool ng) (.bool inf) (.bool false) (.int .u64 (M : Nat)) (.int .i64 E) := by
                rw [← hw10]
                have := heap_setCell_same w9 w8.heap.size 0 _ 28 (.bool ng) N9
                unfold B5
                rw [this]
                simp
              have R10 : B5 w10 (w.heap.size + 1) (.bool false) (.bool false) (.bool false) (.int .u64 0) (.int .i64 0) := by
                rw [← hw10]
                unfold B5
                rw [heap_setCell_other w9 ⟨w8.heap.size, 0, none⟩ (w.heap.size + 1) (.bool ng) (by show w.heap.size + 1 ≠ w8.heap.size; omega)]
                exact R9
              have HK10 : Hid (Keep w w10) := by
                rw [← hw10]
                exact ((HK6.out.trans k68).trans k89).setCell (by show w.heap.size ≤ w8.heap.size; omega) _
              have HR10 : Hid (B5 w10 (w.heap.size + 1) (.bool false) (.bool false) (.bool false) (.int .u64 0) (.int .i64 0)) := R10
              obtain ⟨u0, u1, u2, u3, u4, u5, u6, u7, u8, u9, u10⟩ := T9.eleven
              obtain ⟨n0, n1, n2, n3, n4⟩ := N9.five
              obtain ⟨fn0, -⟩ := N9.frs
              obtain ⟨m0, m1, m2, m3, m4⟩ := N10.five
              obtain ⟨g0, g1, g2, g3, g4⟩ := R10.frs
              obtain ⟨q0, q1, q2, q3, q4⟩ := R10.five
              clear N9 N10 R9 R10 T9 k89 k68 k7 k8 hlt8 hlt82
              go_wp2_with fail
              exact bodyPost_ret (results_box5 rfl _ _ (w.heap.size + 1) _ _ _ _ _ rfl (HR10.out.all _ _ _ _ _)) rfl ⟨inf, M, E, rfl, .inr ⟨HNp.out, .inr (.inr ⟨by omega, by omega, HQ8.out⟩)⟩, HK10.out.all5 (Nat.le_succ _) _ _ _ _ _⟩
            · have b3 : decide ((0 : Int) ≤ P) = false := decide_eq_false z3
              obtain ⟨m, hm⟩ : ∃ m : Nat, -P = (m : Int) := ⟨(-P).toNat, by omega⟩
              have hbound : Hid (1 * 10 ^ m < 4294967296 ^ 1000) := HB2.out m (by omega)
              have hL := fun wx (kx : Keep w6 wx) => ten_nv (.slice (some ⟨wr.heap.size, 0, none⟩) 1 1) (1) m 1000 wx (HO6.out.keep kx) hbound.out (by omega) (by omega)
              have eQ : Hid (∀ inf M E, Q N (1 * 10 ^ m) inf M E → Q (N * 10 ^ P.toNat) (10 ^ (-P).toNat) inf M E) := by
                intro inf M E h
                rw [hm, Int.toNat_natCast, show P.toNat = 0 by omega, Nat.pow_zero, Nat.mul_one]
                rw [Nat.one_mul] at h
                exact h
              replace hL : Hid (∀ wx, Keep w6 wx → Calls Tryz.prog 53 #[_, .int .i64 (m : Int)] wx fun e w' => ∃ v', e = .returned v' ∧ Nv w' v' _ ∧ Keep wx w') := hL
              have hone : Hid (1 < 4294967296 ^ 1000) := one_lim
              have hnl : Hid (N < 4294967296 ^ 1000) := Nat.lt_of_lt_of_le HNlt.out lim_up
              replace hQ : Hid (NearOk fa fb fc Q) := hQ
              go_wp2_with (go_at_call 53; refine (hL.out _ (Keep.refl _)).mono ?_; rintro e w7 ⟨v7, rfl, n7, k7⟩; obtain ⟨x0, x1, x2⟩ := (HF6.out.keep k7).three)
              refine (hQ.out (.slice a l.length c) v7 N (1 * 10 ^ m) w7 (HV6.out.keep k7) n7 hnl.out hbound.out HNp.out (Nat.mul_pos (by decide) (Nat.pow_pos (by decide)))).mono ?_
              rintro e w8 ⟨inf, M, E, rfl, hq, k8⟩
              unfold numA
              have HQ8 : Hid (Q _ _ inf M E) := eQ.out inf M E hq
              clear hq hL
              clear u0 u1 u2 u3 u4 u5 u6 u7 u8 u9 u10 g0 g1 g2 g3 g4 q0 q1 q2 q3 q4 y0 y1 y2 x0 x1 x2
              have k68 := k7.trans k8
              obtain ⟨w9, hw9⟩ : ∃ w9, w8.alloc (.cells #[.bool false, .bool inf, .bool false, .int .u64 (M : Nat), .int .i64 E] 28) = w9 := ⟨_, rfl⟩
              have k89 : Keep w8 w9 := by rw [← hw9]; exact (Keep.refl w8).alloc _
              have N9 : B5 w9 w8.heap.size (.bool false) (.bool inf) (.bool false) (.int .u64 (M : Nat)) (.int .i64 E) := by rw [← hw9]; exact heap_alloc_new w8 _
              have T9 := (HT6.out.keep k68).keep k89
              have R9 := (HR6.out.keep k68).keep k89
              have hlt8 : w.heap.size + 1 < w8.heap.size := (HR6.out.keep k68).lt
              have hlt82 : w2.heap.size < w8.heap.size := (HT6.out.keep k68).lt
              obtain ⟨w10, hw10⟩ : ∃ w10, w9.setCell ⟨w8.heap.size, 0, none⟩ (.bool ng) = w10 := ⟨_, rfl⟩
              have N10 : B5 w10 w8.heap.size (.bool ng) (.bool inf) (.bool false) (.int .u64 (M : Nat)) (.int .i64 E) := by
                rw [← hw10]
                have := heap_setCell_same w9 w8.heap.size 0 _ 28 (.bool ng) N9
                unfold B5
                rw [this]
                simp
              have R10 : B5 w10 (w.heap.size + 1) (.bool false) (.bool false) (.bool false) (.int .u64 0) (.int .i64 0) := by
                rw [← hw10]
                unfold B5
                rw [heap_setCell_other w9 ⟨w8.heap.size, 0, none⟩ (w.heap.size + 1) (.bool ng) (by show w.heap.size + 1 ≠ w8.heap.size; omega)]
                exact R9
              have HK10 : Hid (Keep w w10) := by
                rw [← hw10]
                exact ((HK6.out.trans k68).trans k89).setCell (by show w.heap.size ≤ w8.heap.size; omega) _
              have HR10 : Hid (B5 w10 (w.heap.size + 1) (.bool false) (.bool false) (.bool false) (.int .u64 0) (.int .i64 0)) := R10
              obtain ⟨u0, u1, u2, u3, u4, u5, u6, u7, u8, u9, u10⟩ := T9.eleven
              obtain ⟨n0, n1, n2, n3, n4⟩ := N9.five
              obtain ⟨fn0, -⟩ := N9.frs
              obtain ⟨m0, m1, m2, m3, m4⟩ := N10.five
              obtain ⟨g0, g1, g2, g3, g4⟩ := R10.frs
              obtain ⟨q0, q1, q2, q3, q4⟩ := R10.five
              clear N9 N10 R9 R10 T9 k89 k68 k7 k8 hlt8 hlt82
              go_wp2_with fail
              exact bodyPost_ret (results_box5 rfl _ _ (w.heap.size + 1) _ _ _ _ _ rfl (HR10.out.all _ _ _ _ _)) rfl ⟨inf, M, E, rfl, .inr ⟨HNp.out, .inr (.inr ⟨by omega, by omega, HQ8.out⟩)⟩, HK10.out.all5 (Nat.le_succ _) _ _ _ _ _⟩
end Go.Proofs.YtpdjpjkieafnbaaGreatDoor.Li
set_option linter.unusedVariables false
set_option linter.unusedSimpArgs false
namespace Go.Proofs.YtpdjpjkieafnbaaGreatDoor.Li
open Go.RowKit Lb Nr
set_option maxRecDepth 100000 in
set_option maxHeartbeats 2000000 in
/-- A right hexadecimal. -/
theorem rRead_hex (fa fb fc : Int) (Q : Nat → Nat → Bool → Nat → Int → Prop) (hQ : NearOk fa fb fc Q) (s : List UInt8) (w : World) (hs : s.length ≤ 4096) (hok : cOk s = true) (hhx : cHx s = true) :
    Calls Tryz.prog 13 #[.string ⟨s.toArray⟩, .agg #[.int .i64 fa, .int .i64 fb, .int .i64 fc]] w fun r w' => ∃ inf M E, r = .returned (.tuple #[numA (cNg s) inf false M E, .int .i64 0, .int .i64 0]) ∧ RNq Q 2000 (rxN s) ((sz (rxN s) : Int) + (pcN (cNP s) (cDP s) - 4 * ((cPt s).length : Int))) (rxN s * 2 ^ (pcN (cNP s) (cDP s) - 4 * ((cPt s).length : Int)).toNat) (2 ^ (-(pcN (cNP s) (cDP s) - 4 * ((cPt s).length : Int))).toNat) inf M E ∧ Keep w w' := by
  have hTT : ∀ T V, SpA s T V → T = nmT false false false false (cNg s) true (cWh s) (cPt s) (cPw s) ∧ V = -1 := by
    intro T V hA
    obtain ⟨m1, m2, m3⟩ := not_word hok
    rcases hA with ⟨-, -, q, -⟩ | ⟨q, -⟩ | ⟨q, -⟩ | ⟨q, -⟩ | ⟨-, a, b⟩
    · rw [hok] at q; cases q
    · exact absurd q m1
    · exact absurd q m2
    · exact absurd q m3
    · rw [hhx] at b; exact ⟨b, a⟩
  obtain ⟨l1, l2⟩ := cl_all s
  obtain ⟨p1, p2, p3⟩ := pw_sign hok
  have hX : ∀ c ∈ cWh s ++ cPt s, isX true c = true := (cWh_x hhx).app (cPt_x hhx)
  have hNN : Hid (bn 16 (cWh s ++ cPt s) = rxN s) := bn_hex _
  have hP := fun wx => rpower_any (cPw s) wx (by omega) (cNP s) p1 _ p2
  have epc : Hid (pcN (cNP s) (cDP s) = if cNP s then -((min (nat (cDP s)) 100000 : Nat) : Int) else ((min (nat (cDP s)) 100000 : Nat) : Int)) := rfl
  have hppc : -100000 ≤ pcN (cNP s) (cDP s) ∧ pcN (cNP s) (cDP s) ≤ 100000 := by
    have : min (nat (cDP s)) 100000 ≤ 100000 := Nat.min_le_right _ _
    unfold pcN
    split <;> omega
  rw [← epc.out] at hP
  generalize pcN (cNP s) (cDP s) = pc at *
  generalize rxN s = N at *
  clear p1 p2 p3 epc
  have lpt : (cPt s).length ≤ 4096 := by rw [List.length_append] at l1; omega
  have lwh : (cWh s).length ≤ 4096 := by rw [List.length_append] at l1; omega
  generalize cNg s = ng at *
  generalize cWh s = wh at *
  generalize cPt s = pt at *
  generalize cPw s = pw at *
  clear hok hhx l2
  obtain ⟨P, hPe⟩ : ∃ P : Int, pc - 4 * (pt.length : Int) = P := ⟨_, rfl⟩
  rw [hPe]
  have hPb : -120000 ≤ P ∧ P ≤ 100000 := by omega
  obtain ⟨D, hDe⟩ : ∃ D : Nat, sz N = D := ⟨_, rfl⟩
  rw [hDe]
  have hS := fun wx => Split_any s wx hs
  have hsz : (ByteArray.mk s.toArray).size = s.length := sz_mk s
  have e0 : decide ((4096 : Int) < (s.length : Int)) = false := decide_eq_false (by omega)
  obtain ⟨w1, hw1, K1, F1, R1⟩ : ∃ w1, (w.alloc (Obj.cells #[.int .i64 fa, .int .i64 fb, .int .i64 fc] 32)).alloc (Obj.cells #[.bool false, .bool false, .bool false, .int .u64 0, .int .i64 0] 28) = w1 ∧ Keep w w1 ∧ B3 w1 w.heap.size fa fb fc ∧ B5 w1 (w.heap.size + 1) (.bool false) (.bool false) (.bool false) (.int .u64 0) (.int .i64 0) := by
    refine ⟨_, rfl, ((Keep.refl w).alloc _).alloc _, ?_, ?_⟩
    · have a : B3 (w.alloc (Obj.cells #[.int .i64 fa, .int .i64 fb, .int .i64 fc] 32)) w.heap.size fa fb fc := heap_alloc_new w _
      exact a.keep ((Keep.refl _).alloc _)
    · have a := heap_alloc_new (w.alloc (Obj.cells #[.int .i64 fa, .int .i64 fb, .int .i64 fc] 32)) (Obj.cells #[.bool false, .bool false, .bool false, .int .u64 0, .int .i64 0] 28)
      have e : (w.alloc (Obj.cells #[.int .i64 fa, .int .i64 fb, .int .i64 fc] 32)).heap.size = w.heap.size + 1 := by simp
      rw [e] at a
      exact a
  go_enter Tryz.func13, Tryz.ntmps13
  go_wp2_with fail
  refine (hS _).mono ?_
  clear hS
  rintro e w2 ⟨⟨T, V, rfl, hA⟩, k2⟩
  obtain ⟨hT, hV⟩ := hTT T V hA
  clear hTT hA
  unfold nmT at hT
  subst hT
  subst hV
  obtain ⟨w3, hw3⟩ : ∃ w3, w2.alloc (.cells #[.bool false, .bool false, .bool false, .int .u64 0, .int .i64 0, .bool false, .bool ng, .bool true, .string ⟨wh.toArray⟩, .string ⟨pt.toArray⟩, .string ⟨pw.toArray⟩] 89) = w3 := ⟨_, rfl⟩
  have k23 : Keep w2 w3 := by rw [← hw3]; exact (Keep.refl w2).alloc _
  have T3 : Bk w3 w2.heap.size #[.bool false, .bool false, .bool false, .int .u64 0, .int .i64 0, .bool false, .bool ng, .bool true, .string ⟨wh.toArray⟩, .string ⟨pt.toArray⟩, .string ⟨pw.toArray⟩] := by rw [← hw3]; exact Bk.new w2 _
  have HT3 : Hid (Bk w3 w2.heap.size #[.bool false, .bool false, .bool false, .int .u64 0, .int .i64 0, .bool false, .bool ng, .bool true, .string ⟨wh.toArray⟩, .string ⟨pt.toArray⟩, .string ⟨pw.toArray⟩]) := T3
  have R3 := (R1.keep k2).keep k23
  have HR3 : Hid (B5 w3 (w.heap.size + 1) (.bool false) (.bool false) (.bool false) (.int .u64 0) (.int .i64 0)) := R3
  have HF3 : Hid (B3 w3 w.heap.size fa fb fc) := (F1.keep k2).keep k23
  have HK3 : Hid (Keep w w3) := (K1.trans k2).trans k23
  obtain ⟨c0, c1, c2, c3, c4, c5, c6, c7, c8, c9, c10⟩ := T3.eleven
  obtain ⟨f0, f1, f2, f3, f4⟩ := R3.frs
  obtain ⟨r0, r1, r2, r3, r4⟩ := R3.five
  clear R3 T3 k23 k2 K1 F1 R1
  obtain ⟨d, hd⟩ : ∃ d, wh ++ pt = d := ⟨_, rfl⟩
  rw [hd] at l1 hX hNN
  have hadd : (⟨wh.toArray⟩ : ByteArray) ++ ⟨pt.toArray⟩ = ⟨d.toArray⟩ := by
    rw [← hd]
    apply ByteArray.ext
    simp
  have hdl : d.length ≤ 4096 := by omega
  have hszd : (ByteArray.mk d.toArray).size = d.length := sz_mk d
  have hszw : (ByteArray.mk wh.toArray).size = wh.length := sz_mk wh
  have hszp : (ByteArray.mk pt.toArray).size = pt.length := sz_mk pt
  have HX : Hid (∀ c ∈ d, isX true c = true) := hX
  clear hd l1 hX
  go_wp2_with fail
  go_loopg [10, 12] (d.length) (fun g v10 v12 wx => ∃ i : Nat, i + g = d.length ∧ v12 = .int .i64 (i : Int) ∧ Nv wx v10 (bn 16 (d.take i)) ∧ Keep w3 wx)
  case atStart => exact ⟨0, by omega, rfl, ⟨none, 0, [], rfl, Nat.le_refl _, Rd.nil _ _, by intro x hx; simp at hx, by simp [Nrm], rfl⟩, Keep.refl _⟩
  case round =>
    obtain ⟨i, hig, rfl, hv, hkp⟩ := hrel
    have HV : Hid (Nv wr _ (bn 16 (d.take i))) := hv
    have KP : Hid (Keep w3 wr) := hkp
    clear hv hkp
    by_cases hil : i < d.length
    · have d1 : decide ((i : Int) < (d.length : Int)) = true := decide_eq_true (by omega)
      have hix := fun wx => run_ix d i hil wx
      have hxc := HX.out (d.getD i 0) (by rw [show d.getD i 0 = d[i] by simp [List.getD, hil]]; exact List.getElem_mem _)
      have hstep : Hid (bn 16 (d.take (i + 1)) = 16 * bn 16 (d.take i) + hv (d.getD i 0)) := bn_step 16 d i hil
      have hbl := shl_bn d i hil 16 (by omega) hdl
      have hdg := isX_dg hxc
      have hh := fun wx => hexv_any (d.getD i 0) wx
      rw [hdg] at hh
      have h15 := hv_lt (d.getD i 0)
      have hTm := fun wx (kx : Keep wr wx) => times_nv _ (bn 16 (d.take i)) 512 16 (hv (d.getD i 0)) wx (HV.out.keep kx) hbl (by omega) (by omega) (by omega)
      have hTm : Hid (∀ wx, Keep wr wx → Calls Tryz.prog 47 #[_, .int .u32 16, .int .u32 _] wx _) := hTm
      generalize hv (d.getD i 0) = z at *
      generalize d.getD i 0 = c at *
      clear hxc hdg hbl c0 c1 c2 c3 c4 c5 c6 c7 c8 c9 c10 f0 f1 f2 f3 f4 r0 r1 r2 r3 r4
      go_wp2_with (first
        | (go_at_call 48; refine (hh _).mono ?_; rintro e wa ⟨rfl, rfl⟩)
        | (go_at_call 47; refine (hTm.out _ (Keep.refl _)).mono ?_; rintro e wb ⟨vb, rfl, nb, kb⟩))
      go_roundg (gk - 1)
      case measure => omega
      case rel => exact ⟨i + 1, by omega, by simp, by rw [hstep.out]; exact nb, KP.out.trans kb⟩
    · have hii : i = d.length := by omega
      subst hii
      have d1 : decide ((d.length : Int) < (d.length : Int)) = false := decide_eq_false (by omega)
      rw [List.take_length, hNN.out] at HV
      have T4 := HT3.out.keep KP.out
      have R4 := HR3.out.keep KP.out
      have HK4 : Hid (Keep w wr) := HK3.out.trans KP.out
      have HR4 : Hid (B5 wr (w.heap.size + 1) (.bool false) (.bool false) (.bool false) (.int .u64 0) (.int .i64 0)) := R4
      have HF4 : Hid (B3 wr w.heap.size fa fb fc) := HF3.out.keep KP.out
      have HT4 : Hid (Bk wr w2.heap.size #[.bool false, .bool false, .bool false, .int .u64 0, .int .i64 0, .bool false, .bool ng, .bool true, .string ⟨wh.toArray⟩, .string ⟨pt.toArray⟩, .string ⟨pw.toArray⟩]) := T4
      have hNlt : N < 4294967296 ^ 512 := by
        rw [← hNN.out]
        exact Nat.lt_of_lt_of_le (bn_lt 16 (by omega) d) (pow16_lim _ hdl)
      have hN16 : N < 16 ^ 4096 := by
        rw [← hNN.out]
        exact bn_gen 16 (by omega) d 4096 hdl
      clear c0 c1 c2 c3 c4 c5 c6 c7 c8 c9 c10 f0 f1 f2 f3 f4 r0 r1 r2 r3 r4 HT3 HR3 HF3 hw3 KP
      obtain ⟨c0, c1, c2, c3, c4, c5, c6, c7, c8, c9, c10⟩ := T4.eleven
      obtain ⟨f0, f1, f2, f3, f4⟩ := R4.frs
      obtain ⟨r0, r1, r2, r3, r4⟩ := R4.five
      clear T4 R4 hNN HX
      by_cases hN0 : N = 0
      · subst hN0
        obtain ⟨a, c, rfl⟩ := HV.out.zero
        go_wp2_with fail
        exact bodyPost_ret (results_box5 rfl _ _ (w.heap.size + 1) _ _ _ _ _ rfl (HR4.out.all _ _ _ _ _)) rfl ⟨false, 0, 0, rfl, .inl ⟨rfl, rfl, rfl, rfl⟩, HK4.out.all5 (Nat.le_succ _) _ _ _ _ _⟩
      · have hNp : 0 < N := by omega
        obtain ⟨a, c, l, rfl, hc, hr, hm, hvl, hl0, hlk⟩ := HV.out.pos hNp hNlt
        have hz1 : ((l.length : Int) == 0) = false := by
          rw [beq_eq_false_iff_ne]
          have := List.length_pos_iff.2 hl0
          omega
        clear hc hr hm hvl hl0 hlk hN0
        have HNlt : Hid (N < 4294967296 ^ 512) := hNlt
        have HN16 : Hid (N < 16 ^ 4096) := hN16
        clear hNlt hN16
        obtain ⟨w5, hw5⟩ : ∃ w5, wr.alloc (.cells #[.int .u32 1] 40) = w5 := ⟨_, rfl⟩
        have k45 : Keep wr w5 := by rw [← hw5]; exact (Keep.refl wr).alloc _
        have hone : Nv w5 (.slice (some ⟨wr.heap.size, 0, none⟩) 1 1) 1 := by rw [← hw5]; exact Nv.one
        have HV5 : Hid (Nv w5 (.slice a l.length c) N) := HV.out.keep k45
        have HO5 : Hid (Nv w5 (.slice (some ⟨wr.heap.size, 0, none⟩) 1 1) 1) := hone
        have HK5 : Hid (Keep w w5) := HK4.out.trans k45
        have HR5 : Hid (B5 w5 (w.heap.size + 1) (.bool false) (.bool false) (.bool false) (.int .u64 0) (.int .i64 0)) := HR4.out.keep k45
        have HF5 : Hid (B3 w5 w.heap.size fa fb fc) := HF4.out.keep k45
        have HT5 : Hid (Bk w5 w2.heap.size #[.bool false, .bool false, .bool false, .int .u64 0, .int .i64 0, .bool false, .bool ng, .bool true, .string ⟨wh.toArray⟩, .string ⟨pt.toArray⟩, .string ⟨pw.toArray⟩]) := HT4.out.keep k45
        obtain ⟨u0, u1, u2, u3, u4, u5, u6, u7, u8, u9, u10⟩ := HT5.out.eleven
        clear k45 hone HV HR4 HF4 HT4 HK4
        have HV6 : Hid (Nv w5 (.slice a l.length c) N) := HV5
        have HO6 : Hid (Nv w5 (.slice (some ⟨wr.heap.size, 0, none⟩) 1 1) 1) := HO5
        have hSz : Hid (∀ wx, Keep w5 wx → Calls Tryz.prog 50 #[.slice a l.length c] wx fun e w' => e = .returned (.int .i64 (D : Int)) ∧ w' = wx) := by
          intro wx kx
          have := size_same _ N 512 wx (HV5.out.keep kx) HNlt.out (by omega)
          rw [hDe] at this
          exact this
        obtain ⟨g0, g1, g2, g3, g4⟩ := HR5.out.frs
        obtain ⟨q0, q1, q2, q3, q4⟩ := HR5.out.five
        obtain ⟨y0, y1, y2⟩ := HF5.out.three
        have HT6 := HT5
        have HR6 := HR5
        have HF6 := HF5
        have HK6 := HK5
        have HNp : Hid (0 < N) := hNp
        have HDe : Hid (sz N = D) := hDe
        obtain ⟨hB1, hB2⟩ := bnd_hex 4096 1000 (Nat.le_refl _) (Nat.le_refl _) hDe HN16.out
        have hDl : D ≤ 16384 := bnd_sz hDe 4096 (Nat.le_refl _) HN16.out
        have HB1 : Hid (∀ m, D + m ≤ 2000 → N * 2 ^ m < 4294967296 ^ 1000) := hB1
        have HB2 : Hid (∀ m, m ≤ 2000 + D → 1 * 2 ^ m < 4294967296 ^ 1000) := hB2
        clear hB1 hB2 hNp hDe
        by_cases z1 : 2000 < (D : Int) + P
        · have b1 : decide ((2000 : Int) < (D : Int) + P) = true := decide_eq_true z1
          go_wp2_with (first | (go_at_call 49; refine (hP _).mono ?_; rintro e wp ⟨rfl, rfl⟩) | (go_at_call 50; refine (hSz.out _ (Keep.refl _)).mono ?_; rintro e wz ⟨rfl, rfl⟩))
          exact bodyPost_ret (results_box5 rfl _ _ (w.heap.size + 1) _ _ _ _ _ rfl (HR6.out.all _ _ _ _ _)) rfl ⟨true, 0, 0, rfl, .inr ⟨HNp.out, .inl ⟨z1, rfl, rfl, rfl⟩⟩, HK6.out.all5 (Nat.le_succ _) _ _ _ _ _⟩
        · have b1 : decide ((2000 : Int) < (D : Int) + P) = false := decide_eq_false z1
          by_cases z2 : (D : Int) + P < -2000
          · have b2 : decide ((D : Int) + P < -2000) = true := decide_eq_true z2
            go_wp2_with (first | (go_at_call 49; refine (hP _).mono ?_; rintro e wp ⟨rfl, rfl⟩) | (go_at_call 50; refine (hSz.out _ (Keep.refl _)).mono ?_; rintro e wz ⟨rfl, rfl⟩))
            exact bodyPost_ret (results_box5 rfl _ _ (w.heap.size + 1) _ _ _ _ _ rfl (HR6.out.all _ _ _ _ _)) rfl ⟨false, 0, 0, rfl, .inr ⟨HNp.out, .inr (.inl ⟨z2, rfl, rfl, rfl⟩)⟩, HK6.out.all5 (Nat.le_succ _) _ _ _ _ _⟩
          · have b2 : decide ((D : Int) + P < -2000) = false := decide_eq_false z2
            by_cases z3 : 0 ≤ P
            · have b3 : decide ((0 : Int) ≤ P) = true := decide_eq_true z3
              obtain ⟨m, hm⟩ : ∃ m : Nat, P = (m : Int) := ⟨P.toNat, by omega⟩
              have hbound : Hid (N * 2 ^ m < 4294967296 ^ 1000) := HB1.out m (by omega)
              have hL := fun wx (kx : Keep w5 wx) => up_nv (.slice a l.length c) (N) m 1000 wx (HV6.out.keep kx) (Nat.lt_of_le_of_lt (Nat.le_mul_of_pos_right _ (Nat.two_pow_pos m)) hbound.out) (by omega) (by omega)
              have eQ : Hid (∀ inf M E, Q (N * 2 ^ m) 1 inf M E → Q (N * 2 ^ P.toNat) (2 ^ (-P).toNat) inf M E) := by
                intro inf M E h
                rw [hm, Int.toNat_natCast, show (-(m : Int)).toNat = 0 by omega, Nat.pow_zero]
                exact h
              replace hL : Hid (∀ wx, Keep w5 wx → Calls Tryz.prog 51 #[_, .int .i64 (m : Int)] wx fun e w' => ∃ v', e = .returned v' ∧ Nv w' v' _ ∧ Keep wx w') := hL
              have hone : Hid (1 < 4294967296 ^ 1000) := one_lim
              have hnl : Hid (N < 4294967296 ^ 1000) := Nat.lt_of_lt_of_le HNlt.out lim_up
              replace hQ : Hid (NearOk fa fb fc Q) := hQ
              go_wp2_with (first | (go_at_call 49; refine (hP _).mono ?_; rintro e wp ⟨rfl, rfl⟩) | (go_at_call 50; refine (hSz.out _ (Keep.refl _)).mono ?_; rintro e wz ⟨rfl, rfl⟩) | (go_at_call 51; refine (hL.out _ (Keep.refl _)).mono ?_; rintro e w7 ⟨v7, rfl, n7, k7⟩; obtain ⟨x0, x1, x2⟩ := (HF6.out.keep k7).three))
              refine (hQ.out v7 (.slice (some ⟨wr.heap.size, 0, none⟩) 1 1) (N * 2 ^ m) 1 w7 n7 (HO6.out.keep k7) hbound.out hone.out (Nat.mul_pos HNp.out (Nat.pow_pos (by decide))) (by decide)).mono ?_
              rintro e w8 ⟨inf, M, E, rfl, hq, k8⟩
              unfold numA
              have HQ8 : Hid (Q _ _ inf M E) := eQ.out inf M E hq
              clear hq hL
              clear u0 u1 u2 u3 u4 u5 u6 u7 u8 u9 u10 g0 g1 g2 g3 g4 q0 q1 q2 q3 q4 y0 y1 y2 x0 x1 x2
              have k68 := k7.trans k8
              obtain ⟨w9, hw9⟩ : ∃ w9, w8.alloc (.cells #[.bool false, .bool inf, .bool false, .int .u64 (M : Nat), .int .i64 E] 28) = w9 := ⟨_, rfl⟩
              have k89 : Keep w8 w9 := by rw [← hw9]; exact (Keep.refl w8).alloc _
              have N9 : B5 w9 w8.heap.size (.bool false) (.bool inf) (.bool false) (.int .u64 (M : Nat)) (.int .i64 E) := by rw [← hw9]; exact heap_alloc_new w8 _
              have T9 := (HT6.out.keep k68).keep k89
              have R9 := (HR6.out.keep k68).keep k89
              have hlt8 : w.heap.size + 1 < w8.heap.size := (HR6.out.keep k68).lt
              have hlt82 : w2.heap.size < w8.heap.size := (HT6.out.keep k68).lt
              obtain ⟨w10, hw10⟩ : ∃ w10, w9.setCell ⟨w8.heap.size, 0, none⟩ (.bool ng) = w10 := ⟨_, rfl⟩
              have N10 : B5 w10 w8.heap.size (.bool ng) (.bool inf) (.bool false) (.int .u64 (M : Nat)) (.int .i64 E) := by
                rw [← hw10]
                have := heap_setCell_same w9 w8.heap.size 0 _ 28 (.bool ng) N9
                unfold B5
                rw [this]
                simp
              have R10 : B5 w10 (w.heap.size + 1) (.bool false) (.bool false) (.bool false) (.int .u64 0) (.int .i64 0) := by
                rw [← hw10]
                unfold B5
                rw [heap_setCell_other w9 ⟨w8.heap.size, 0, none⟩ (w.heap.size + 1) (.bool ng) (by show w.heap.size + 1 ≠ w8.heap.size; omega)]
                exact R9
              have HK10 : Hid (Keep w w10) := by
                rw [← hw10]
                exact ((HK6.out.trans k68).trans k89).setCell (by show w.heap.size ≤ w8.heap.size; omega) _
              have HR10 : Hid (B5 w10 (w.heap.size + 1) (.bool false) (.bool false) (.bool false) (.int .u64 0) (.int .i64 0)) := R10
              obtain ⟨u0, u1, u2, u3, u4, u5, u6, u7, u8, u9, u10⟩ := T9.eleven
              obtain ⟨n0, n1, n2, n3, n4⟩ := N9.five
              obtain ⟨fn0, -⟩ := N9.frs
              obtain ⟨m0, m1, m2, m3, m4⟩ := N10.five
              obtain ⟨g0, g1, g2, g3, g4⟩ := R10.frs
              obtain ⟨q0, q1, q2, q3, q4⟩ := R10.five
              clear N9 N10 R9 R10 T9 k89 k68 k7 k8 hlt8 hlt82
              go_wp2_with fail
              exact bodyPost_ret (results_box5 rfl _ _ (w.heap.size + 1) _ _ _ _ _ rfl (HR10.out.all _ _ _ _ _)) rfl ⟨inf, M, E, rfl, .inr ⟨HNp.out, .inr (.inr ⟨by omega, by omega, HQ8.out⟩)⟩, HK10.out.all5 (Nat.le_succ _) _ _ _ _ _⟩
            · have b3 : decide ((0 : Int) ≤ P) = false := decide_eq_false z3
              obtain ⟨m, hm⟩ : ∃ m : Nat, -P = (m : Int) := ⟨(-P).toNat, by omega⟩
              have hbound : Hid (1 * 2 ^ m < 4294967296 ^ 1000) := HB2.out m (by omega)
              have hL := fun wx (kx : Keep w5 wx) => up_nv (.slice (some ⟨wr.heap.size, 0, none⟩) 1 1) (1) m 1000 wx (HO6.out.keep kx) (Nat.lt_of_le_of_lt (Nat.le_mul_of_pos_right _ (Nat.two_pow_pos m)) hbound.out) (by omega) (by omega)
              have eQ : Hid (∀ inf M E, Q N (1 * 2 ^ m) inf M E → Q (N * 2 ^ P.toNat) (2 ^ (-P).toNat) inf M E) := by
                intro inf M E h
                rw [hm, Int.toNat_natCast, show P.toNat = 0 by omega, Nat.pow_zero, Nat.mul_one]
                rw [Nat.one_mul] at h
                exact h
              replace hL : Hid (∀ wx, Keep w5 wx → Calls Tryz.prog 51 #[_, .int .i64 (m : Int)] wx fun e w' => ∃ v', e = .returned v' ∧ Nv w' v' _ ∧ Keep wx w') := hL
              have hone : Hid (1 < 4294967296 ^ 1000) := one_lim
              have hnl : Hid (N < 4294967296 ^ 1000) := Nat.lt_of_lt_of_le HNlt.out lim_up
              replace hQ : Hid (NearOk fa fb fc Q) := hQ
              go_wp2_with (first | (go_at_call 49; refine (hP _).mono ?_; rintro e wp ⟨rfl, rfl⟩) | (go_at_call 50; refine (hSz.out _ (Keep.refl _)).mono ?_; rintro e wz ⟨rfl, rfl⟩) | (go_at_call 51; refine (hL.out _ (Keep.refl _)).mono ?_; rintro e w7 ⟨v7, rfl, n7, k7⟩; obtain ⟨x0, x1, x2⟩ := (HF6.out.keep k7).three))
              refine (hQ.out (.slice a l.length c) v7 N (1 * 2 ^ m) w7 (HV6.out.keep k7) n7 hnl.out hbound.out HNp.out (Nat.mul_pos (by decide) (Nat.pow_pos (by decide)))).mono ?_
              rintro e w8 ⟨inf, M, E, rfl, hq, k8⟩
              unfold numA
              have HQ8 : Hid (Q _ _ inf M E) := eQ.out inf M E hq
              clear hq hL
              clear u0 u1 u2 u3 u4 u5 u6 u7 u8 u9 u10 g0 g1 g2 g3 g4 q0 q1 q2 q3 q4 y0 y1 y2 x0 x1 x2
              have k68 := k7.trans k8
              obtain ⟨w9, hw9⟩ : ∃ w9, w8.alloc (.cells #[.bool false, .bool inf, .bool false, .int .u64 (M : Nat), .int .i64 E] 28) = w9 := ⟨_, rfl⟩
              have k89 : Keep w8 w9 := by rw [← hw9]; exact (Keep.refl w8).alloc _
              have N9 : B5 w9 w8.heap.size (.bool false) (.bool inf) (.bool false) (.int .u64 (M : Nat)) (.int .i64 E) := by rw [← hw9]; exact heap_alloc_new w8 _
              have T9 := (HT6.out.keep k68).keep k89
              have R9 := (HR6.out.keep k68).keep k89
              have hlt8 : w.heap.size + 1 < w8.heap.size := (HR6.out.keep k68).lt
              have hlt82 : w2.heap.size < w8.heap.size := (HT6.out.keep k68).lt
              obtain ⟨w10, hw10⟩ : ∃ w10, w9.setCell ⟨w8.heap.size, 0, none⟩ (.bool ng) = w10 := ⟨_, rfl⟩
              have N10 : B5 w10 w8.heap.size (.bool ng) (.bool inf) (.bool false) (.int .u64 (M : Nat)) (.int .i64 E) := by
                rw [← hw10]
                have := heap_setCell_same w9 w8.heap.size 0 _ 28 (.bool ng) N9
                unfold B5
                rw [this]
                simp
              have R10 : B5 w10 (w.heap.size + 1) (.bool false) (.bool false) (.bool false) (.int .u64 0) (.int .i64 0) := by
                rw [← hw10]
                unfold B5
                rw [heap_setCell_other w9 ⟨w8.heap.size, 0, none⟩ (w.heap.size + 1) (.bool ng) (by show w.heap.size + 1 ≠ w8.heap.size; omega)]
                exact R9
              have HK10 : Hid (Keep w w10) := by
                rw [← hw10]
                exact ((HK6.out.trans k68).trans k89).setCell (by show w.heap.size ≤ w8.heap.size; omega) _
              have HR10 : Hid (B5 w10 (w.heap.size + 1) (.bool false) (.bool false) (.bool false) (.int .u64 0) (.int .i64 0)) := R10
              obtain ⟨u0, u1, u2, u3, u4, u5, u6, u7, u8, u9, u10⟩ := T9.eleven
              obtain ⟨n0, n1, n2, n3, n4⟩ := N9.five
              obtain ⟨fn0, -⟩ := N9.frs
              obtain ⟨m0, m1, m2, m3, m4⟩ := N10.five
              obtain ⟨g0, g1, g2, g3, g4⟩ := R10.frs
              obtain ⟨q0, q1, q2, q3, q4⟩ := R10.five
              clear N9 N10 R9 R10 T9 k89 k68 k7 k8 hlt8 hlt82
              go_wp2_with fail
              exact bodyPost_ret (results_box5 rfl _ _ (w.heap.size + 1) _ _ _ _ _ rfl (HR10.out.all _ _ _ _ _)) rfl ⟨inf, M, E, rfl, .inr ⟨HNp.out, .inr (.inr ⟨by omega, by omega, HQ8.out⟩)⟩, HK10.out.all5 (Nat.le_succ _) _ _ _ _ _⟩
end Go.Proofs.YtpdjpjkieafnbaaGreatDoor.Li
