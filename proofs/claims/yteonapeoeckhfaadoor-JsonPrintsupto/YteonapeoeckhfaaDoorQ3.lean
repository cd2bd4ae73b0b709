import Derived.Test.YteonapeoeckhfaaDoorQ2
set_option linter.unusedVariables false
set_option linter.unusedSimpArgs false
namespace Go.Proofs.YteonapeoeckhfaaDoor
open Go.RowKit Go.Shelf
theorem nx45 (s : List UInt8) (k : Nat) : ((nx s k : Int) == 45) = tk s [45] k := nx_is 45 (by decide)
theorem nx48 (s : List UInt8) (k : Nat) : ((nx s k : Int) == 48) = tk s [48] k := nx_is 48 (by decide)
theorem nx46 (s : List UInt8) (k : Nat) : ((nx s k : Int) == 46) = tk s [46] k := nx_is 46 (by decide)
theorem nx101 (s : List UInt8) (k : Nat) : ((nx s k : Int) == 101) = tk s [101] k := nx_is 101 (by decide)
theorem nx69 (s : List UInt8) (k : Nat) : ((nx s k : Int) == 69) = tk s [69] k := nx_is 69 (by decide)
theorem nx43 (s : List UInt8) (k : Nat) : ((nx s k : Int) == 43) = tk s [43] k := nx_is 43 (by decide)
theorem nx45' (s : List UInt8) (k : Nat) : ((nx s k : Int) == 45) = tk s [45] k := nx_is 45 (by decide)
theorem tk_two (s : List UInt8) (a b : UInt8) (k : Nat) : tk s [a, b] k = (tk s [a] k || tk s [b] k) := by
  unfold tk
  rw [Bool.eq_iff_iff]
  simp
  constructor
  · rintro ⟨h, e | e⟩
    · exact .inl ⟨h, e⟩
    · exact .inr ⟨h, e⟩
  · rintro (⟨h, e⟩ | ⟨h, e⟩)
    · exact ⟨h, .inl e⟩
    · exact ⟨h, .inr e⟩
set_option maxRecDepth 100000 in
set_option maxHeartbeats 8000000 in
theorem rnumber_ok (b c k z : Nat) (ta : Option Addr) (s : List UInt8) (w : World) (hs : s.length ≤ 140737488355328) (hc : s.length ≤ c) (hk : k ≤ s.length) (h : Rg w b ta c s k 0 z) (n2 : (nu2 s (nu1 s k)).1 = true) (n3 : (nu3 s (nu2 s (nu1 s k)).2).1 = true) (n4 : (nu4 s (nu3 s (nu2 s (nu1 s k)).2).2).1 = true) :
    Calls Tryd.prog 49 #[.pointer (some ⟨b, 0, none⟩)] w fun e w' => e = .returned (.string ⟨((s.take (nu4 s (nu3 s (nu2 s (nu1 s k)).2).2).2).drop k).toArray⟩) ∧ Rg w' b ta c s (nu4 s (nu3 s (nu2 s (nu1 s k)).2).2).2 0 z ∧ Kb b w w' := by
  have hk1 := nu1_le hk
  have ge1 := nu1_ge s k
  have hk2 := nu2_le hk1
  have ge2 := nu2_ge s (nu1 s k)
  have hk3 := nu3_le hk2
  have ge3 := nu3_ge s (nu2 s (nu1 s k)).2
  have hK4 := nu4_le hk3
  have ge4 := nu4_ge s (nu3 s (nu2 s (nu1 s k)).2).2
  have q2 := nu2_cases n2
  have q3 := nu3_cases n3
  have q4 := nu4_cases n4
  clear n2 n3 n4
  generalize hKe : (nu4 s (nu3 s (nu2 s (nu1 s k)).2).2).2 = K at *
  clear hKe
  generalize (nu3 s (nu2 s (nu1 s k)).2).2 = k3 at *
  generalize (nu2 s (nu1 s k)).2 = k2 at *
  obtain ⟨k1, hk1e⟩ : ∃ k1, nu1 s k = k1 := ⟨_, rfl⟩
  rw [hk1e] at hk1 ge1 ge2 q2
  have hN := rnext_any b c k 0 z ta s w hs hk h
  have hx := nx45 s k
  generalize nx s k = n1 at hN hx
  have ek1 : nu1 s k = if tk s [45] k = true then k + 1 else k := rfl
  obtain ⟨-, c1, -⟩ := h.cells
  have HL : Hid (k ≤ K ∧ K ≤ s.length) := ⟨by omega, hK4⟩
  clear h
  go_enter Tryd.func49, Tryd.ntmps49
  go_upto_if 10 with (go_at_call 63; refine hN.mono ?_; clear hN; rintro e w1 ⟨rfl, r1, o1⟩)
  go_cut [] from 10 to 17 (fun wx => Hid (Rg wx b ta c s k1 0 z) ∧ Kb b w wx)
  case first =>
    cases t1 : tk s [45] k with
    | true =>
      rw [t1] at hx ek1
      have e1 : k1 = k + 1 := hk1e.symm.trans ek1
      have hlt1 := tk_lt t1
      have q1 := r1.setK (k + 1)
      have q3 := o1.set 1 (.int .i64 ((k + 1 : Nat) : Int))
      obtain ⟨-, c1, -, -, f1, -⟩ := r1.cells
      have hcast : ((k + 1 : Nat) : Int) = (k : Int) + 1 := by omega
      rw [hcast] at q1 q3
      clear hcast
      try rw [hx]
      clear t1 ek1 hx HL
      go_wp2_with fail
      go_meet
      exact ⟨by show Rg _ _ _ _ _ _ _ _; rw [e1]; exact q1, q3⟩
    | false =>
      rw [t1] at hx ek1
      have e1 : k1 = k := hk1e.symm.trans ek1
      try rw [hx]
      clear t1 ek1 hx HL
      go_wp2_with fail
      go_meet
      exact ⟨by show Rg _ _ _ _ _ _ _ _; rw [e1]; exact r1, o1⟩
  case rest =>
    rename_i wA
    obtain ⟨r1, o1⟩ := hcut
    have r1 := r1.out
    clear ek1 hx
    have hN := rnext_any b c k1 0 z ta s _ hs hk1 r1
    have hx := nx48 s k1
    generalize nx s k1 = n1 at hN hx
    go_upto_if 20 with (go_at_call 63; refine hN.mono ?_; clear hN; rintro e w2 ⟨rfl, r2, o2⟩)
    go_cut [] from 20 to 29 (fun wx => Hid (Rg wx b ta c s k2 0 z) ∧ Kb b w wx)
    case first =>
      rcases q2 with ⟨t2, eI⟩ | ⟨t2, d2, eI⟩
      · rw [t2] at hx
        have q1 := r2.setK (k1 + 1)
        have q3 := (o1.trans o2).set 1 (.int .i64 ((k1 + 1 : Nat) : Int))
        obtain ⟨-, c1, -, -, f1, -⟩ := r2.cells
        have hcast : ((k1 + 1 : Nat) : Int) = (k1 : Int) + 1 := by omega
        rw [hcast] at q1 q3
        clear hcast
        try rw [t2]
        try rw [hx]
        have EI : Hid (k2 = k1 + 1) := eI
        clear t2 hx eI HL
        go_wp2_with fail
        go_meet
        exact ⟨by show Rg _ _ _ _ _ _ _ _; rw [EI.out]; exact q1, q3⟩
      · rw [t2] at hx
        have hD := rdigits_ok b c k1 z ta s _ hs hk1 r2 d2
        rw [← eI] at hD
        try rw [t2]
        try rw [hx]
        clear t2 hx eI HL d2
        go_wp2_with (go_at_call 64; refine hD.mono ?_; clear hD; rintro e w3 ⟨rfl, r3, o3⟩)
        go_meet
        exact ⟨r3, (o1.trans o2).trans o3⟩
    case rest =>
      rename_i wB
      obtain ⟨r2, o2⟩ := hcut
      have r2 := r2.out
      clear hx r1 o1
      have hO := rok_any b c k2 0 z ta s _ r2
      have hN := rnext_any b c k2 0 z ta s _ hs hk2 r2
      have hx := nx46 s k2
      generalize nx s k2 = n1 at hN hx
      go_upto_if 36 with (first | (go_at_call 26; refine hO.mono ?_; clear hO; rintro e wz ⟨rfl, hz⟩; rw [hz]; clear hz wz) | (go_at_call 63; refine hN.mono ?_; clear hN; rintro e w3 ⟨rfl, r3, o3⟩))
      go_cut [] from 30 to 45 (fun wx => Hid (Rg wx b ta c s k3 0 z) ∧ Kb b w wx)
      case first =>
        rcases q3 with ⟨t3, d3, eJ⟩ | ⟨t3, eJ⟩
        · rw [t3] at hx
          have hl2 := tk_lt t3
          have q1 := r3.setK (k2 + 1)
          have q3 := (o2.trans o3).set 1 (.int .i64 ((k2 + 1 : Nat) : Int))
          obtain ⟨-, c1, -, -, f1, -⟩ := r3.cells
          have hcast : ((k2 + 1 : Nat) : Int) = (k2 : Int) + 1 := by omega
          rw [hcast] at q1 q3
          clear hcast
          have hD := fun wx hr => rdigits_ok b c (k2 + 1) z ta s wx hs (by omega) hr d3
          rw [← eJ] at hD
          try simp only [t3]
          try simp only [hx]
          clear t3 hx eJ HL d3 hl2
          go_wp2_with (go_at_call 64; refine (hD _ q1).mono ?_; clear hD; rintro e w4 ⟨rfl, r4, o4⟩)
          go_meet
          exact ⟨r4, q3.trans o4⟩
        · rw [t3] at hx
          have EJ : Hid (k3 = k2) := eJ
          try simp only [t3]
          try simp only [hx]
          clear t3 hx eJ HL
          go_wp2_with fail
          go_meet
          exact ⟨by show Rg _ _ _ _ _ _ _ _; rw [EJ.out]; exact r3, o2.trans o3⟩
      case rest =>
        rename_i wC
        obtain ⟨r3, o3⟩ := hcut
        have r3 := r3.out
        clear hx r2 o2
        have hO := rok_any b c k3 0 z ta s _ r3
        have hN := rnext_any b c k3 0 z ta s _ hs hk3 r3
        have hN2 := fun wx hr => rnext_any b c k3 0 z ta s wx hs hk3 hr
        have hxe := nx101 s k3
        have hxE := nx69 s k3
        have htw := tk_two s 101 69 k3
        generalize nx s k3 = n1 at hN hN2 hxe hxE
        rcases q4 with ⟨t4, d4, eK⟩ | ⟨t4, eK⟩
        · cases te : tk s [101] k3 with
          | true =>
            have t4 : tk s [101, 69] k3 = true := by rw [htw, te]; rfl
            rw [te] at hxe
            clear hxE htw
            go_upto_region 11 with (first | (go_at_call 26; refine hO.mono ?_; clear hO; rintro e wz ⟨rfl, hz⟩; rw [hz]; clear hz wz) | (go_at_call 63; refine hN.mono ?_; clear hN; rintro e w4 ⟨rfl, r4, o4⟩; have hN3 := hN2 w4 r4; clear hN2))
            have hl3 := tk_lt t4
            have q1 := r4.setK (k3 + 1)
            have q3 := (o3.trans o4).set 1 (.int .i64 ((k3 + 1 : Nat) : Int))
            obtain ⟨-, c1, -, -, f1, -⟩ := r4.cells
            have hcast : ((k3 + 1 : Nat) : Int) = (k3 : Int) + 1 := by omega
            rw [hcast] at q1 q3
            clear hcast
            clear r4
            have hNs := fun wx hr => rnext_any b c (k3 + 1) 0 z ta s wx hs (by omega) hr
            have hxp := nx43 s (k3 + 1)
            have hxm := nx45 s (k3 + 1)
            have htw5 := tk_two s 43 45 (k3 + 1)
            have ek5 : nu5 s (k3 + 1) = if tk s [43, 45] (k3 + 1) = true then k3 + 1 + 1 else k3 + 1 := rfl
            generalize nx s (k3 + 1) = n5 at hNs hxp hxm
            have h5 := nu5_le (s := s) (k := k3 + 1) (by omega)
            obtain ⟨k5, hk5⟩ : ∃ k5, nu5 s (k3 + 1) = k5 := ⟨_, rfl⟩
            rw [hk5] at h5 d4 eK
            have ek5 := hk5.symm.trans ek5
            clear hk5 t4
            have hNs1 := hNs _ q1
            go_upto_region 12 with fail
            go_cut [72] from 65 to 72 (fun s72 wx => s72 = .bool (tk s [43, 45] (k3 + 1)) ∧ Hid (Rg wx b ta c s (k3 + 1) 0 z) ∧ Kb b w wx)
            case first =>
              cases t5 : tk s [43] (k3 + 1) with
              | true =>
                rw [t5] at hxp
                have H5 : Hid (tk s [43, 45] (k3 + 1) = true) := by show _ = _; rw [htw5, t5]; rfl
                clear t5 hxm htw5 ek5 eK d4 HL
                go_wp2_with (first | (go_at_call 63; refine hNs1.mono ?_; clear hNs1; rintro e w6 ⟨rfl, r6, o6⟩; have hNs2 := hNs w6 r6; clear hNs) | (go_at_call 63; refine hNs2.mono ?_; clear hNs2; rintro e w7 ⟨rfl, r7, o7⟩))
                go_meet
                exact ⟨by rw [H5.out], r6, q3.trans o6⟩
              | false =>
                rw [t5] at hxp
                have H5 : Hid (tk s [43, 45] (k3 + 1) = tk s [45] (k3 + 1)) := by show _ = _; rw [htw5, t5]; rfl
                generalize tk s [45] (k3 + 1) = t6 at hxm H5
                clear t5 htw5 ek5 eK d4 HL
                go_wp2_with (first | (go_at_call 63; refine hNs1.mono ?_; clear hNs1; rintro e w6 ⟨rfl, r6, o6⟩; have hNs2 := hNs w6 r6; clear hNs) | (go_at_call 63; refine hNs2.mono ?_; clear hNs2; rintro e w7 ⟨rfl, r7, o7⟩))
                go_meet
                exact ⟨by rw [H5.out], r7, (q3.trans o6).trans o7⟩
            case rest =>
              rename_i wD
              obtain ⟨rfl, r6, o6⟩ := hcut
              have r6 := r6.out
              clear hxp hxm htw5 q1 q3 hNs hNs1 c1 f1
              go_upto_if 72 with fail
              go_cut [] from 72 to 79 (fun wx => Hid (Rg wx b ta c s k5 0 z) ∧ Kb b w wx)
              case first =>
                cases t5 : tk s [43, 45] (k3 + 1) with
                | true =>
                  rw [t5] at ek5
                  have EK5 : Hid (k5 = k3 + 1 + 1) := ek5
                  clear t5 ek5 eK d4 HL
                  have q1 := r6.setK ((k3 + 1) + 1)
                  have q3 := o6.set 1 (.int .i64 (((k3 + 1) + 1 : Nat) : Int))
                  obtain ⟨-, c1, -, -, f1, -⟩ := r6.cells
                  have hcast : (((k3 + 1) + 1 : Nat) : Int) = ((k3 + 1) : Int) + 1 := by omega
                  rw [hcast] at q1 q3
                  clear hcast
                  go_wp2_with fail
                  go_meet
                  exact ⟨by show Rg _ _ _ _ _ _ _ _; rw [EK5.out]; exact q1, q3⟩
                | false =>
                  rw [t5] at ek5
                  have EK5 : Hid (k5 = k3 + 1) := ek5
                  clear t5 ek5 eK d4 HL
                  go_wp2_with fail
                  go_meet
                  exact ⟨by show Rg _ _ _ _ _ _ _ _; rw [EK5.out]; exact r6, o6⟩
              case rest =>
                rename_i wE
                obtain ⟨r7, o7⟩ := hcut
                have r7 := r7.out
                clear r6 o6 ek5
                have hD := rdigits_ok b c k5 z ta s _ hs h5 r7 d4
                rw [← eK] at hD
                clear eK
                go_wp2_with (go_at_call 64; refine hD.mono ?_; clear hD; rintro e w9 ⟨rfl, r9, o9⟩; obtain ⟨ad, hcut2, hconv⟩ := cut_str (c := c) r9.rd hc HL.out.1 HL.out.2; obtain ⟨cy, cx, -⟩ := r9.cells; have HR : Hid (Rg w9 b ta c s K 0 z) := r9; clear r9)
                generalize s.length = L at *
                go_quiet (fail)
                go_wp2_with fail
                go_ret
                exact ⟨rfl, HR.out.drewN _, (o7.trans o9).drewN _⟩
          | false =>
            have t4' : tk s [101, 69] k3 = true := t4
            rw [htw, te, Bool.false_or] at t4'
            rw [te] at hxe
            rw [t4'] at hxE
            clear htw te t4'
            go_upto_region 11 with (first | (go_at_call 26; refine hO.mono ?_; clear hO; rintro e wz ⟨rfl, hz⟩; rw [hz]; clear hz wz) | (go_at_call 63; refine hN.mono ?_; clear hN; rintro e w4 ⟨rfl, r4, o4⟩; have hN3 := hN2 w4 r4; clear hN2) | (go_at_call 63; refine hN3.mono ?_; clear hN3; rintro e w5 ⟨rfl, r5, o5⟩))
            have hl3 := tk_lt t4
            have q1 := r5.setK (k3 + 1)
            have q3 := ((o3.trans o4).trans o5).set 1 (.int .i64 ((k3 + 1 : Nat) : Int))
            obtain ⟨-, c1, -, -, f1, -⟩ := r5.cells
            have hcast : ((k3 + 1 : Nat) : Int) = (k3 : Int) + 1 := by omega
            rw [hcast] at q1 q3
            clear hcast
            clear r5
            have hNs := fun wx hr => rnext_any b c (k3 + 1) 0 z ta s wx hs (by omega) hr
            have hxp := nx43 s (k3 + 1)
            have hxm := nx45 s (k3 + 1)
            have htw5 := tk_two s 43 45 (k3 + 1)
            have ek5 : nu5 s (k3 + 1) = if tk s [43, 45] (k3 + 1) = true then k3 + 1 + 1 else k3 + 1 := rfl
            generalize nx s (k3 + 1) = n5 at hNs hxp hxm
            have h5 := nu5_le (s := s) (k := k3 + 1) (by omega)
            obtain ⟨k5, hk5⟩ : ∃ k5, nu5 s (k3 + 1) = k5 := ⟨_, rfl⟩
            rw [hk5] at h5 d4 eK
            have ek5 := hk5.symm.trans ek5
            clear hk5 t4
            have hNs1 := hNs _ q1
            go_upto_region 12 with fail
            go_cut [72] from 65 to 72 (fun s72 wx => s72 = .bool (tk s [43, 45] (k3 + 1)) ∧ Hid (Rg wx b ta c s (k3 + 1) 0 z) ∧ Kb b w wx)
            case first =>
              cases t5 : tk s [43] (k3 + 1) with
              | true =>
                rw [t5] at hxp
                have H5 : Hid (tk s [43, 45] (k3 + 1) = true) := by show _ = _; rw [htw5, t5]; rfl
                clear t5 hxm htw5 ek5 eK d4 HL
                go_wp2_with (first | (go_at_call 63; refine hNs1.mono ?_; clear hNs1; rintro e w6 ⟨rfl, r6, o6⟩; have hNs2 := hNs w6 r6; clear hNs) | (go_at_call 63; refine hNs2.mono ?_; clear hNs2; rintro e w7 ⟨rfl, r7, o7⟩))
                go_meet
                exact ⟨by rw [H5.out], r6, q3.trans o6⟩
              | false =>
                rw [t5] at hxp
                have H5 : Hid (tk s [43, 45] (k3 + 1) = tk s [45] (k3 + 1)) := by show _ = _; rw [htw5, t5]; rfl
                generalize tk s [45] (k3 + 1) = t6 at hxm H5
                clear t5 htw5 ek5 eK d4 HL
                go_wp2_with (first | (go_at_call 63; refine hNs1.mono ?_; clear hNs1; rintro e w6 ⟨rfl, r6, o6⟩; have hNs2 := hNs w6 r6; clear hNs) | (go_at_call 63; refine hNs2.mono ?_; clear hNs2; rintro e w7 ⟨rfl, r7, o7⟩))
                go_meet
                exact ⟨by rw [H5.out], r7, (q3.trans o6).trans o7⟩
            case rest =>
              rename_i wD
              obtain ⟨rfl, r6, o6⟩ := hcut
              have r6 := r6.out
              clear hxp hxm htw5 q1 q3 hNs hNs1 c1 f1
              go_upto_if 72 with fail
              go_cut [] from 72 to 79 (fun wx => Hid (Rg wx b ta c s k5 0 z) ∧ Kb b w wx)
              case first =>
                cases t5 : tk s [43, 45] (k3 + 1) with
                | true =>
                  rw [t5] at ek5
                  have EK5 : Hid (k5 = k3 + 1 + 1) := ek5
                  clear t5 ek5 eK d4 HL
                  have q1 := r6.setK ((k3 + 1) + 1)
                  have q3 := o6.set 1 (.int .i64 (((k3 + 1) + 1 : Nat) : Int))
                  obtain ⟨-, c1, -, -, f1, -⟩ := r6.cells
                  have hcast : (((k3 + 1) + 1 : Nat) : Int) = ((k3 + 1) : Int) + 1 := by omega
                  rw [hcast] at q1 q3
                  clear hcast
                  go_wp2_with fail
                  go_meet
                  exact ⟨by show Rg _ _ _ _ _ _ _ _; rw [EK5.out]; exact q1, q3⟩
                | false =>
                  rw [t5] at ek5
                  have EK5 : Hid (k5 = k3 + 1) := ek5
                  clear t5 ek5 eK d4 HL
                  go_wp2_with fail
                  go_meet
                  exact ⟨by show Rg _ _ _ _ _ _ _ _; rw [EK5.out]; exact r6, o6⟩
              case rest =>
                rename_i wE
                obtain ⟨r7, o7⟩ := hcut
                have r7 := r7.out
                clear r6 o6 ek5
                have hD := rdigits_ok b c k5 z ta s _ hs h5 r7 d4
                rw [← eK] at hD
                clear eK
                go_wp2_with (go_at_call 64; refine hD.mono ?_; clear hD; rintro e w9 ⟨rfl, r9, o9⟩; obtain ⟨ad, hcut2, hconv⟩ := cut_str (c := c) r9.rd hc HL.out.1 HL.out.2; obtain ⟨cy, cx, -⟩ := r9.cells; have HR : Hid (Rg w9 b ta c s K 0 z) := r9; clear r9)
                generalize s.length = L at *
                go_quiet (fail)
                go_wp2_with fail
                go_ret
                exact ⟨rfl, HR.out.drewN _, (o7.trans o9).drewN _⟩
        · rw [htw, Bool.or_eq_false_iff] at t4
          rw [t4.1] at hxe
          rw [t4.2] at hxE
          clear htw t4
          go_wp2_with (first | (go_at_call 26; refine hO.mono ?_; clear hO; rintro e wz ⟨rfl, hz⟩; rw [hz]; clear hz wz) | (go_at_call 63; refine hN.mono ?_; clear hN; rintro e w4 ⟨rfl, r4, o4⟩; have hN3 := hN2 w4 r4; clear hN2) | (go_at_call 63; refine hN3.mono ?_; clear hN3; rintro e w5 ⟨rfl, r5, o5⟩; rw [← eK] at r5; obtain ⟨ad, hcut2, hconv⟩ := cut_str (c := c) r5.rd hc HL.out.1 HL.out.2; obtain ⟨cy, cx, -⟩ := r5.cells; have HR : Hid (Rg w5 b ta c s K 0 z) := r5; clear r5 eK))
          generalize s.length = L at *
          go_quiet (fail)
          go_wp2_with fail
          go_ret
          exact ⟨rfl, HR.out.drewN _, ((o3.trans o4).trans o5).drewN _⟩
set_option maxRecDepth 100000 in
set_option maxHeartbeats 8000000 in
theorem rnumber_bad4 (b c k z : Nat) (ta : Option Addr) (s : List UInt8) (w : World) (hs : s.length ≤ 140737488355328) (hc : s.length ≤ c) (hk : k ≤ s.length) (h : Rg w b ta c s k 0 z) (n2 : (nu2 s (nu1 s k)).1 = true) (n3 : (nu3 s (nu2 s (nu1 s k)).2).1 = true) (n4 : (nu4 s (nu3 s (nu2 s (nu1 s k)).2).2).1 = false) :
    Calls Tryd.prog 49 #[.pointer (some ⟨b, 0, none⟩)] w fun e w' => e = .returned (.string ⟨((s.take (nu4 s (nu3 s (nu2 s (nu1 s k)).2).2).2).drop k).toArray⟩) ∧ Rg w' b ta c s (nu4 s (nu3 s (nu2 s (nu1 s k)).2).2).2 100 (nu4 s (nu3 s (nu2 s (nu1 s k)).2).2).2 ∧ Kb b w w' := by
  have hk1 := nu1_le hk
  have ge1 := nu1_ge s k
  have hk2 := nu2_le hk1
  have ge2 := nu2_ge s (nu1 s k)
  have hk3 := nu3_le hk2
  have ge3 := nu3_ge s (nu2 s (nu1 s k)).2
  have hK4 := nu4_le hk3
  have ge4 := nu4_ge s (nu3 s (nu2 s (nu1 s k)).2).2
  have q2 := nu2_cases n2
  have q3 := nu3_cases n3
  obtain ⟨t4, d4, eK⟩ := nu4_bad n4
  clear n2 n3 n4
  generalize hKe : (nu4 s (nu3 s (nu2 s (nu1 s k)).2).2).2 = K at *
  clear hKe
  generalize (nu3 s (nu2 s (nu1 s k)).2).2 = k3 at *
  generalize (nu2 s (nu1 s k)).2 = k2 at *
  obtain ⟨k1, hk1e⟩ : ∃ k1, nu1 s k = k1 := ⟨_, rfl⟩
  rw [hk1e] at hk1 ge1 ge2 q2
  have hN := rnext_any b c k 0 z ta s w hs hk h
  have hx := nx45 s k
  generalize nx s k = n1 at hN hx
  have ek1 : nu1 s k = if tk s [45] k = true then k + 1 else k := rfl
  obtain ⟨-, c1, -⟩ := h.cells
  have HL : Hid (k ≤ K ∧ K ≤ s.length) := ⟨by omega, hK4⟩
  clear h
  go_enter Tryd.func49, Tryd.ntmps49
  go_upto_if 10 with (go_at_call 63; refine hN.mono ?_; clear hN; rintro e w1 ⟨rfl, r1, o1⟩)
  go_cut [] from 10 to 17 (fun wx => Hid (Rg wx b ta c s k1 0 z) ∧ Kb b w wx)
  case first =>
    cases t1 : tk s [45] k with
    | true =>
      rw [t1] at hx ek1
      have e1 : k1 = k + 1 := hk1e.symm.trans ek1
      have hlt1 := tk_lt t1
      have q1 := r1.setK (k + 1)
      have q3 := o1.set 1 (.int .i64 ((k + 1 : Nat) : Int))
      obtain ⟨-, c1, -, -, f1, -⟩ := r1.cells
      have hcast : ((k + 1 : Nat) : Int) = (k : Int) + 1 := by omega
      rw [hcast] at q1 q3
      clear hcast
      try rw [hx]
      clear t1 ek1 hx HL
      go_wp2_with fail
      go_meet
      exact ⟨by show Rg _ _ _ _ _ _ _ _; rw [e1]; exact q1, q3⟩
    | false =>
      rw [t1] at hx ek1
      have e1 : k1 = k := hk1e.symm.trans ek1
      try rw [hx]
      clear t1 ek1 hx HL
      go_wp2_with fail
      go_meet
      exact ⟨by show Rg _ _ _ _ _ _ _ _; rw [e1]; exact r1, o1⟩
  case rest =>
    rename_i wA
    obtain ⟨r1, o1⟩ := hcut
    have r1 := r1.out
    clear ek1 hx
    have hN := rnext_any b c k1 0 z ta s _ hs hk1 r1
    have hx := nx48 s k1
    generalize nx s k1 = n1 at hN hx
    go_upto_if 20 with (go_at_call 63; refine hN.mono ?_; clear hN; rintro e w2 ⟨rfl, r2, o2⟩)
    go_cut [] from 20 to 29 (fun wx => Hid (Rg wx b ta c s k2 0 z) ∧ Kb b w wx)
    case first =>
      rcases q2 with ⟨t2, eI⟩ | ⟨t2, d2, eI⟩
      · rw [t2] at hx
        have q1 := r2.setK (k1 + 1)
        have q3 := (o1.trans o2).set 1 (.int .i64 ((k1 + 1 : Nat) : Int))
        obtain ⟨-, c1, -, -, f1, -⟩ := r2.cells
        have hcast : ((k1 + 1 : Nat) : Int) = (k1 : Int) + 1 := by omega
        rw [hcast] at q1 q3
        clear hcast
        try rw [t2]
        try rw [hx]
        have EI : Hid (k2 = k1 + 1) := eI
        clear t2 hx eI HL
        go_wp2_with fail
        go_meet
        exact ⟨by show Rg _ _ _ _ _ _ _ _; rw [EI.out]; exact q1, q3⟩
      · rw [t2] at hx
        have hD := rdigits_ok b c k1 z ta s _ hs hk1 r2 d2
        rw [← eI] at hD
        try rw [t2]
        try rw [hx]
        clear t2 hx eI HL d2
        go_wp2_with (go_at_call 64; refine hD.mono ?_; clear hD; rintro e w3 ⟨rfl, r3, o3⟩)
        go_meet
        exact ⟨r3, (o1.trans o2).trans o3⟩
    case rest =>
      rename_i wB
      obtain ⟨r2, o2⟩ := hcut
      have r2 := r2.out
      clear hx r1 o1
      have hO := rok_any b c k2 0 z ta s _ r2
      have hN := rnext_any b c k2 0 z ta s _ hs hk2 r2
      have hx := nx46 s k2
      generalize nx s k2 = n1 at hN hx
      go_upto_if 36 with (first | (go_at_call 26; refine hO.mono ?_; clear hO; rintro e wz ⟨rfl, hz⟩; rw [hz]; clear hz wz) | (go_at_call 63; refine hN.mono ?_; clear hN; rintro e w3 ⟨rfl, r3, o3⟩))
      go_cut [] from 30 to 45 (fun wx => Hid (Rg wx b ta c s k3 0 z) ∧ Kb b w wx)
      case first =>
        rcases q3 with ⟨t3, d3, eJ⟩ | ⟨t3, eJ⟩
        · rw [t3] at hx
          have hl2 := tk_lt t3
          have q1 := r3.setK (k2 + 1)
          have q3 := (o2.trans o3).set 1 (.int .i64 ((k2 + 1 : Nat) : Int))
          obtain ⟨-, c1, -, -, f1, -⟩ := r3.cells
          have hcast : ((k2 + 1 : Nat) : Int) = (k2 : Int) + 1 := by omega
          rw [hcast] at q1 q3
          clear hcast
          have hD := fun wx hr => rdigits_ok b c (k2 + 1) z ta s wx hs (by omega) hr d3
          rw [← eJ] at hD
          try simp only [t3]
          try simp only [hx]
          clear t3 hx eJ HL d3 hl2
          go_wp2_with (go_at_call 64; refine (hD _ q1).mono ?_; clear hD; rintro e w4 ⟨rfl, r4, o4⟩)
          go_meet
          exact ⟨r4, q3.trans o4⟩
        · rw [t3] at hx
          have EJ : Hid (k3 = k2) := eJ
          try simp only [t3]
          try simp only [hx]
          clear t3 hx eJ HL
          go_wp2_with fail
          go_meet
          exact ⟨by show Rg _ _ _ _ _ _ _ _; rw [EJ.out]; exact r3, o2.trans o3⟩
      case rest =>
        rename_i wC
        obtain ⟨r3, o3⟩ := hcut
        have r3 := r3.out
        clear hx r2 o2
        have hO := rok_any b c k3 0 z ta s _ r3
        have hN := rnext_any b c k3 0 z ta s _ hs hk3 r3
        have hN2 := fun wx hr => rnext_any b c k3 0 z ta s wx hs hk3 hr
        have hxe := nx101 s k3
        have hxE := nx69 s k3
        have htw := tk_two s 101 69 k3
        generalize nx s k3 = n1 at hN hN2 hxe hxE
        cases te : tk s [101] k3 with
        | true =>
          have t4 : tk s [101, 69] k3 = true := by rw [htw, te]; rfl
          rw [te] at hxe
          clear hxE htw
          go_upto_region 11 with (first | (go_at_call 26; refine hO.mono ?_; clear hO; rintro e wz ⟨rfl, hz⟩; rw [hz]; clear hz wz) | (go_at_call 63; refine hN.mono ?_; clear hN; rintro e w4 ⟨rfl, r4, o4⟩; have hN3 := hN2 w4 r4; clear hN2))
          have hl3 := tk_lt t4
          have q1 := r4.setK (k3 + 1)
          have q3 := (o3.trans o4).set 1 (.int .i64 ((k3 + 1 : Nat) : Int))
          obtain ⟨-, c1, -, -, f1, -⟩ := r4.cells
          have hcast : ((k3 + 1 : Nat) : Int) = (k3 : Int) + 1 := by omega
          rw [hcast] at q1 q3
          clear hcast
          clear r4
          have hNs := fun wx hr => rnext_any b c (k3 + 1) 0 z ta s wx hs (by omega) hr
          have hxp := nx43 s (k3 + 1)
          have hxm := nx45 s (k3 + 1)
          have htw5 := tk_two s 43 45 (k3 + 1)
          have ek5 : nu5 s (k3 + 1) = if tk s [43, 45] (k3 + 1) = true then k3 + 1 + 1 else k3 + 1 := rfl
          generalize nx s (k3 + 1) = n5 at hNs hxp hxm
          have h5 := nu5_le (s := s) (k := k3 + 1) (by omega)
          obtain ⟨k5, hk5⟩ : ∃ k5, nu5 s (k3 + 1) = k5 := ⟨_, rfl⟩
          rw [hk5] at h5 d4 eK
          have ek5 := hk5.symm.trans ek5
          clear hk5 t4
          have hNs1 := hNs _ q1
          go_upto_region 12 with fail
          go_cut [72] from 65 to 72 (fun s72 wx => s72 = .bool (tk s [43, 45] (k3 + 1)) ∧ Hid (Rg wx b ta c s (k3 + 1) 0 z) ∧ Kb b w wx)
          case first =>
            cases t5 : tk s [43] (k3 + 1) with
            | true =>
              rw [t5] at hxp
              have H5 : Hid (tk s [43, 45] (k3 + 1) = true) := by show _ = _; rw [htw5, t5]; rfl
              clear t5 hxm htw5 ek5 eK d4 HL
              go_wp2_with (first | (go_at_call 63; refine hNs1.mono ?_; clear hNs1; rintro e w6 ⟨rfl, r6, o6⟩; have hNs2 := hNs w6 r6; clear hNs) | (go_at_call 63; refine hNs2.mono ?_; clear hNs2; rintro e w7 ⟨rfl, r7, o7⟩))
              go_meet
              exact ⟨by rw [H5.out], r6, q3.trans o6⟩
            | false =>
              rw [t5] at hxp
              have H5 : Hid (tk s [43, 45] (k3 + 1) = tk s [45] (k3 + 1)) := by show _ = _; rw [htw5, t5]; rfl
              generalize tk s [45] (k3 + 1) = t6 at hxm H5
              clear t5 htw5 ek5 eK d4 HL
              go_wp2_with (first | (go_at_call 63; refine hNs1.mono ?_; clear hNs1; rintro e w6 ⟨rfl, r6, o6⟩; have hNs2 := hNs w6 r6; clear hNs) | (go_at_call 63; refine hNs2.mono ?_; clear hNs2; rintro e w7 ⟨rfl, r7, o7⟩))
              go_meet
              exact ⟨by rw [H5.out], r7, (q3.trans o6).trans o7⟩
          case rest =>
            rename_i wD
            obtain ⟨rfl, r6, o6⟩ := hcut
            have r6 := r6.out
            clear hxp hxm htw5 q1 q3 hNs hNs1 c1 f1
            go_upto_if 72 with fail
            go_cut [] from 72 to 79 (fun wx => Hid (Rg wx b ta c s k5 0 z) ∧ Kb b w wx)
            case first =>
              cases t5 : tk s [43, 45] (k3 + 1) with
              | true =>
                rw [t5] at ek5
                have EK5 : Hid (k5 = k3 + 1 + 1) := ek5
                clear t5 ek5 eK d4 HL
                have q1 := r6.setK ((k3 + 1) + 1)
                have q3 := o6.set 1 (.int .i64 (((k3 + 1) + 1 : Nat) : Int))
                obtain ⟨-, c1, -, -, f1, -⟩ := r6.cells
                have hcast : (((k3 + 1) + 1 : Nat) : Int) = ((k3 + 1) : Int) + 1 := by omega
                rw [hcast] at q1 q3
                clear hcast
                go_wp2_with fail
                go_meet
                exact ⟨by show Rg _ _ _ _ _ _ _ _; rw [EK5.out]; exact q1, q3⟩
              | false =>
                rw [t5] at ek5
                have EK5 : Hid (k5 = k3 + 1) := ek5
                clear t5 ek5 eK d4 HL
                go_wp2_with fail
                go_meet
                exact ⟨by show Rg _ _ _ _ _ _ _ _; rw [EK5.out]; exact r6, o6⟩
            case rest =>
              rename_i wE
              obtain ⟨r7, o7⟩ := hcut
              have r7 := r7.out
              clear r6 o6 ek5
              have hD := rdigits_bad b c k5 z ta s _ hs h5 r7 d4
              rw [← eK] at hD
              clear eK
              go_wp2_with (go_at_call 64; refine hD.mono ?_; clear hD; rintro e w9 ⟨rfl, r9, o9⟩; obtain ⟨ad, hcut2, hconv⟩ := cut_str (c := c) r9.rd hc HL.out.1 HL.out.2; obtain ⟨cy, cx, -⟩ := r9.cells; have HR : Hid (Rg w9 b ta c s K 100 K) := r9; clear r9)
              generalize s.length = L at *
              go_quiet (fail)
              go_wp2_with fail
              go_ret
              exact ⟨rfl, HR.out.drewN _, (o7.trans o9).drewN _⟩
        | false =>
          have t4' : tk s [101, 69] k3 = true := t4
          rw [htw, te, Bool.false_or] at t4'
          rw [te] at hxe
          rw [t4'] at hxE
          clear htw te t4'
          go_upto_region 11 with (first | (go_at_call 26; refine hO.mono ?_; clear hO; rintro e wz ⟨rfl, hz⟩; rw [hz]; clear hz wz) | (go_at_call 63; refine hN.mono ?_; clear hN; rintro e w4 ⟨rfl, r4, o4⟩; have hN3 := hN2 w4 r4; clear hN2) | (go_at_call 63; refine hN3.mono ?_; clear hN3; rintro e w5 ⟨rfl, r5, o5⟩))
          have hl3 := tk_lt t4
          have q1 := r5.setK (k3 + 1)
          have q3 := ((o3.trans o4).trans o5).set 1 (.int .i64 ((k3 + 1 : Nat) : Int))
          obtain ⟨-, c1, -, -, f1, -⟩ := r5.cells
          have hcast : ((k3 + 1 : Nat) : Int) = (k3 : Int) + 1 := by omega
          rw [hcast] at q1 q3
          clear hcast
          clear r5
          have hNs := fun wx hr => rnext_any b c (k3 + 1) 0 z ta s wx hs (by omega) hr
          have hxp := nx43 s (k3 + 1)
          have hxm := nx45 s (k3 + 1)
          have htw5 := tk_two s 43 45 (k3 + 1)
          have ek5 : nu5 s (k3 + 1) = if tk s [43, 45] (k3 + 1) = true then k3 + 1 + 1 else k3 + 1 := rfl
          generalize nx s (k3 + 1) = n5 at hNs hxp hxm
          have h5 := nu5_le (s := s) (k := k3 + 1) (by omega)
          obtain ⟨k5, hk5⟩ : ∃ k5, nu5 s (k3 + 1) = k5 := ⟨_, rfl⟩
          rw [hk5] at h5 d4 eK
          have ek5 := hk5.symm.trans ek5
          clear hk5 t4
          have hNs1 := hNs _ q1
          go_upto_region 12 with fail
          go_cut [72] from 65 to 72 (fun s72 wx => s72 = .bool (tk s [43, 45] (k3 + 1)) ∧ Hid (Rg wx b ta c s (k3 + 1) 0 z) ∧ Kb b w wx)
          case first =>
            cases t5 : tk s [43] (k3 + 1) with
            | true =>
              rw [t5] at hxp
              have H5 : Hid (tk s [43, 45] (k3 + 1) = true) := by show _ = _; rw [htw5, t5]; rfl
              clear t5 hxm htw5 ek5 eK d4 HL
              go_wp2_with (first | (go_at_call 63; refine hNs1.mono ?_; clear hNs1; rintro e w6 ⟨rfl, r6, o6⟩; have hNs2 := hNs w6 r6; clear hNs) | (go_at_call 63; refine hNs2.mono ?_; clear hNs2; rintro e w7 ⟨rfl, r7, o7⟩))
              go_meet
              exact ⟨by rw [H5.out], r6, q3.trans o6⟩
            | false =>
              rw [t5] at hxp
              have H5 : Hid (tk s [43, 45] (k3 + 1) = tk s [45] (k3 + 1)) := by show _ = _; rw [htw5, t5]; rfl
              generalize tk s [45] (k3 + 1) = t6 at hxm H5
              clear t5 htw5 ek5 eK d4 HL
              go_wp2_with (first | (go_at_call 63; refine hNs1.mono ?_; clear hNs1; rintro e w6 ⟨rfl, r6, o6⟩; have hNs2 := hNs w6 r6; clear hNs) | (go_at_call 63; refine hNs2.mono ?_; clear hNs2; rintro e w7 ⟨rfl, r7, o7⟩))
              go_meet
              exact ⟨by rw [H5.out], r7, (q3.trans o6).trans o7⟩
          case rest =>
            rename_i wD
            obtain ⟨rfl, r6, o6⟩ := hcut
            have r6 := r6.out
            clear hxp hxm htw5 q1 q3 hNs hNs1 c1 f1
            go_upto_if 72 with fail
            go_cut [] from 72 to 79 (fun wx => Hid (Rg wx b ta c s k5 0 z) ∧ Kb b w wx)
            case first =>
              cases t5 : tk s [43, 45] (k3 + 1) with
              | true =>
                rw [t5] at ek5
                have EK5 : Hid (k5 = k3 + 1 + 1) := ek5
                clear t5 ek5 eK d4 HL
                have q1 := r6.setK ((k3 + 1) + 1)
                have q3 := o6.set 1 (.int .i64 (((k3 + 1) + 1 : Nat) : Int))
                obtain ⟨-, c1, -, -, f1, -⟩ := r6.cells
                have hcast : (((k3 + 1) + 1 : Nat) : Int) = ((k3 + 1) : Int) + 1 := by omega
                rw [hcast] at q1 q3
                clear hcast
                go_wp2_with fail
                go_meet
                exact ⟨by show Rg _ _ _ _ _ _ _ _; rw [EK5.out]; exact q1, q3⟩
              | false =>
                rw [t5] at ek5
                have EK5 : Hid (k5 = k3 + 1) := ek5
                clear t5 ek5 eK d4 HL
                go_wp2_with fail
                go_meet
                exact ⟨by show Rg _ _ _ _ _ _ _ _; rw [EK5.out]; exact r6, o6⟩
            case rest =>
              rename_i wE
              obtain ⟨r7, o7⟩ := hcut
              have r7 := r7.out
              clear r6 o6 ek5
              have hD := rdigits_bad b c k5 z ta s _ hs h5 r7 d4
              rw [← eK] at hD
              clear eK
              go_wp2_with (go_at_call 64; refine hD.mono ?_; clear hD; rintro e w9 ⟨rfl, r9, o9⟩; obtain ⟨ad, hcut2, hconv⟩ := cut_str (c := c) r9.rd hc HL.out.1 HL.out.2; obtain ⟨cy, cx, -⟩ := r9.cells; have HR : Hid (Rg w9 b ta c s K 100 K) := r9; clear r9)
              generalize s.length = L at *
              go_quiet (fail)
              go_wp2_with fail
              go_ret
              exact ⟨rfl, HR.out.drewN _, (o7.trans o9).drewN _⟩
set_option maxRecDepth 100000 in
set_option maxHeartbeats 8000000 in
theorem rnumber_bad3 (b c k z : Nat) (ta : Option Addr) (s : List UInt8) (w : World) (hs : s.length ≤ 140737488355328) (hc : s.length ≤ c) (hk : k ≤ s.length) (h : Rg w b ta c s k 0 z) (n2 : (nu2 s (nu1 s k)).1 = true) (n3 : (nu3 s (nu2 s (nu1 s k)).2).1 = false) :
    Calls Tryd.prog 49 #[.pointer (some ⟨b, 0, none⟩)] w fun e w' => e = .returned (.string ⟨((s.take (nu3 s (nu2 s (nu1 s k)).2).2).drop k).toArray⟩) ∧ Rg w' b ta c s (nu3 s (nu2 s (nu1 s k)).2).2 100 (nu3 s (nu2 s (nu1 s k)).2).2 ∧ Kb b w w' := by
  have hk1 := nu1_le hk
  have ge1 := nu1_ge s k
  have hk2 := nu2_le hk1
  have ge2 := nu2_ge s (nu1 s k)
  have hK4 := nu3_le hk2
  have ge3 := nu3_ge s (nu2 s (nu1 s k)).2
  have q2 := nu2_cases n2
  obtain ⟨t3, d3, eJ⟩ := nu3_bad n3
  clear n2 n3
  generalize hKe : (nu3 s (nu2 s (nu1 s k)).2).2 = K at *
  clear hKe
  generalize (nu2 s (nu1 s k)).2 = k2 at *
  obtain ⟨k1, hk1e⟩ : ∃ k1, nu1 s k = k1 := ⟨_, rfl⟩
  rw [hk1e] at hk1 ge1 ge2 q2
  have hN := rnext_any b c k 0 z ta s w hs hk h
  have hx := nx45 s k
  generalize nx s k = n1 at hN hx
  have ek1 : nu1 s k = if tk s [45] k = true then k + 1 else k := rfl
  obtain ⟨-, c1, -⟩ := h.cells
  have HL : Hid (k ≤ K ∧ K ≤ s.length) := ⟨by omega, hK4⟩
  clear h
  go_enter Tryd.func49, Tryd.ntmps49
  go_upto_if 10 with (go_at_call 63; refine hN.mono ?_; clear hN; rintro e w1 ⟨rfl, r1, o1⟩)
  go_cut [] from 10 to 17 (fun wx => Hid (Rg wx b ta c s k1 0 z) ∧ Kb b w wx)
  case first =>
    cases t1 : tk s [45] k with
    | true =>
      rw [t1] at hx ek1
      have e1 : k1 = k + 1 := hk1e.symm.trans ek1
      have hlt1 := tk_lt t1
      have q1 := r1.setK (k + 1)
      have q3 := o1.set 1 (.int .i64 ((k + 1 : Nat) : Int))
      obtain ⟨-, c1, -, -, f1, -⟩ := r1.cells
      have hcast : ((k + 1 : Nat) : Int) = (k : Int) + 1 := by omega
      rw [hcast] at q1 q3
      clear hcast
      try rw [hx]
      clear t1 ek1 hx HL
      go_wp2_with fail
      go_meet
      exact ⟨by show Rg _ _ _ _ _ _ _ _; rw [e1]; exact q1, q3⟩
    | false =>
      rw [t1] at hx ek1
      have e1 : k1 = k := hk1e.symm.trans ek1
      try rw [hx]
      clear t1 ek1 hx HL
      go_wp2_with fail
      go_meet
      exact ⟨by show Rg _ _ _ _ _ _ _ _; rw [e1]; exact r1, o1⟩
  case rest =>
    rename_i wA
    obtain ⟨r1, o1⟩ := hcut
    have r1 := r1.out
    clear ek1 hx
    have hN := rnext_any b c k1 0 z ta s _ hs hk1 r1
    have hx := nx48 s k1
    generalize nx s k1 = n1 at hN hx
    go_upto_if 20 with (go_at_call 63; refine hN.mono ?_; clear hN; rintro e w2 ⟨rfl, r2, o2⟩)
    go_cut [] from 20 to 29 (fun wx => Hid (Rg wx b ta c s k2 0 z) ∧ Kb b w wx)
    case first =>
      rcases q2 with ⟨t2, eI⟩ | ⟨t2, d2, eI⟩
      · rw [t2] at hx
        have q1 := r2.setK (k1 + 1)
        have q3 := (o1.trans o2).set 1 (.int .i64 ((k1 + 1 : Nat) : Int))
        obtain ⟨-, c1, -, -, f1, -⟩ := r2.cells
        have hcast : ((k1 + 1 : Nat) : Int) = (k1 : Int) + 1 := by omega
        rw [hcast] at q1 q3
        clear hcast
        try rw [t2]
        try rw [hx]
        have EI : Hid (k2 = k1 + 1) := eI
        clear t2 hx eI HL
        go_wp2_with fail
        go_meet
        exact ⟨by show Rg _ _ _ _ _ _ _ _; rw [EI.out]; exact q1, q3⟩
      · rw [t2] at hx
        have hD := rdigits_ok b c k1 z ta s _ hs hk1 r2 d2
        rw [← eI] at hD
        try rw [t2]
        try rw [hx]
        clear t2 hx eI HL d2
        go_wp2_with (go_at_call 64; refine hD.mono ?_; clear hD; rintro e w3 ⟨rfl, r3, o3⟩)
        go_meet
        exact ⟨r3, (o1.trans o2).trans o3⟩
    case rest =>
      rename_i wB
      obtain ⟨r2, o2⟩ := hcut
      have r2 := r2.out
      clear hx r1 o1
      have hO := rok_any b c k2 0 z ta s _ r2
      have hN := rnext_any b c k2 0 z ta s _ hs hk2 r2
      have hx := nx46 s k2
      generalize nx s k2 = n1 at hN hx
      rw [t3] at hx
      have hl2 := tk_lt t3
      have hD := fun wx hr => rdigits_bad b c (k2 + 1) z ta s wx hs (by omega) hr d3
      rw [← eJ] at hD
      clear t3 eJ d3
      go_wp2_with (first
        | (go_at_call 26; refine hO.mono ?_; clear hO; rintro e wz ⟨rfl, hz⟩; rw [hz]; clear hz wz)
        | (go_at_call 63; refine hN.mono ?_; clear hN; rintro e w3 ⟨rfl, r3, o3⟩
           have q1 := r3.setK (k2 + 1)
           have q3 := o3.set 1 (.int .i64 ((k2 + 1 : Nat) : Int))
           obtain ⟨-, c1, -, -, f1, -⟩ := r3.cells
           have hcast : ((k2 + 1 : Nat) : Int) = (k2 : Int) + 1 := by omega
           rw [hcast] at q1 q3
           clear hcast r3
           have hD1 := hD _ q1
           clear hD)
        | (go_at_call 64; refine hD1.mono ?_; clear hD1; rintro e w4 ⟨rfl, r4, o4⟩; obtain ⟨ad, hcut2, hconv⟩ := cut_str (c := c) r4.rd hc HL.out.1 HL.out.2; obtain ⟨cy, cx, -⟩ := r4.cells; have HR : Hid (Rg w4 b ta c s K 100 K) := r4; have hO2 := rok_any b c K 100 K ta s _ r4; clear r4)
        | (go_at_call 26; refine hO2.mono ?_; clear hO2; rintro e wz ⟨rfl, hz⟩; rw [hz]; clear hz wz))
      generalize s.length = L at *
      go_quiet (fail)
      go_wp2_with fail
      go_ret
      exact ⟨rfl, HR.out.drewN _, ((o2.trans q3).trans o4).drewN _⟩
set_option maxRecDepth 100000 in
set_option maxHeartbeats 8000000 in
theorem rnumber_bad2 (b c k z : Nat) (ta : Option Addr) (s : List UInt8) (w : World) (hs : s.length ≤ 140737488355328) (hc : s.length ≤ c) (hk : k ≤ s.length) (h : Rg w b ta c s k 0 z) (n2 : (nu2 s (nu1 s k)).1 = false) :
    Calls Tryd.prog 49 #[.pointer (some ⟨b, 0, none⟩)] w fun e w' => e = .returned (.string ⟨((s.take (nu2 s (nu1 s k)).2).drop k).toArray⟩) ∧ Rg w' b ta c s (nu2 s (nu1 s k)).2 100 (nu2 s (nu1 s k)).2 ∧ Kb b w w' := by
  have hk1 := nu1_le hk
  have ge1 := nu1_ge s k
  have hK4 := nu2_le hk1
  have ge2 := nu2_ge s (nu1 s k)
  obtain ⟨t2, d2, eI⟩ := nu2_bad n2
  clear n2
  generalize hKe : (nu2 s (nu1 s k)).2 = K at *
  clear hKe
  obtain ⟨k1, hk1e⟩ : ∃ k1, nu1 s k = k1 := ⟨_, rfl⟩
  rw [hk1e] at hk1 ge1 ge2 t2 d2 eI
  have hN := rnext_any b c k 0 z ta s w hs hk h
  have hx := nx45 s k
  generalize nx s k = n1 at hN hx
  have ek1 : nu1 s k = if tk s [45] k = true then k + 1 else k := rfl
  obtain ⟨-, c1, -⟩ := h.cells
  have HL : Hid (k ≤ K ∧ K ≤ s.length) := ⟨by omega, hK4⟩
  clear h
  go_enter Tryd.func49, Tryd.ntmps49
  go_upto_if 10 with (go_at_call 63; refine hN.mono ?_; clear hN; rintro e w1 ⟨rfl, r1, o1⟩)
  go_cut [] from 10 to 17 (fun wx => Hid (Rg wx b ta c s k1 0 z) ∧ Kb b w wx)
  case first =>
    cases t1 : tk s [45] k with
    | true =>
      rw [t1] at hx ek1
      have e1 : k1 = k + 1 := hk1e.symm.trans ek1
      have hlt1 := tk_lt t1
      have q1 := r1.setK (k + 1)
      have q3 := o1.set 1 (.int .i64 ((k + 1 : Nat) : Int))
      obtain ⟨-, c1, -, -, f1, -⟩ := r1.cells
      have hcast : ((k + 1 : Nat) : Int) = (k : Int) + 1 := by omega
      rw [hcast] at q1 q3
      clear hcast
      try rw [hx]
      clear t1 ek1 hx HL
      go_wp2_with fail
      go_meet
      exact ⟨by show Rg _ _ _ _ _ _ _ _; rw [e1]; exact q1, q3⟩
    | false =>
      rw [t1] at hx ek1
      have e1 : k1 = k := hk1e.symm.trans ek1
      try rw [hx]
      clear t1 ek1 hx HL
      go_wp2_with fail
      go_meet
      exact ⟨by show Rg _ _ _ _ _ _ _ _; rw [e1]; exact r1, o1⟩
  case rest =>
    rename_i wA
    obtain ⟨r1, o1⟩ := hcut
    have r1 := r1.out
    clear ek1 hx
    have hN := rnext_any b c k1 0 z ta s _ hs hk1 r1
    have hx := nx48 s k1
    generalize nx s k1 = n1 at hN hx
    rw [t2] at hx
    have hD := fun wx hr => rdigits_bad b c k1 z ta s wx hs hk1 hr d2
    rw [← eI] at hD
    clear t2 eI d2
    go_wp2_with (first
      | (go_at_call 63; refine hN.mono ?_; clear hN; rintro e w3 ⟨rfl, r3, o3⟩; have hD1 := hD _ r3; clear hD)
      | (go_at_call 64; refine hD1.mono ?_; clear hD1; rintro e w4 ⟨rfl, r4, o4⟩; obtain ⟨ad, hcut2, hconv⟩ := cut_str (c := c) r4.rd hc HL.out.1 HL.out.2; obtain ⟨cy, cx, -⟩ := r4.cells; have HR : Hid (Rg w4 b ta c s K 100 K) := r4; have hO2 := rok_any b c K 100 K ta s _ r4; clear r4; have hO3 := hO2)
      | (go_at_call 26; refine hO2.mono ?_; clear hO2; rintro e wz ⟨rfl, hz⟩; rw [hz]; clear hz wz)
      | (go_at_call 26; refine hO3.mono ?_; clear hO3; rintro e wz ⟨rfl, hz⟩; rw [hz]; clear hz wz))
    generalize s.length = L at *
    go_quiet (fail)
    go_wp2_with fail
    go_ret
    exact ⟨rfl, HR.out.drewN _, ((o1.trans o3).trans o4).drewN _⟩
theorem rnumber_any (b c k z : Nat) (ta : Option Addr) (s : List UInt8) (w : World) (hs : s.length ≤ 140737488355328) (hc : s.length ≤ c) (hk : k ≤ s.length) (h : Rg w b ta c s k 0 z) :
    Calls Tryd.prog 49 #[.pointer (some ⟨b, 0, none⟩)] w fun e w' => e = .returned (.string ⟨((s.take (num s k).2).drop k).toArray⟩) ∧ Rg w' b ta c s (num s k).2 (if (num s k).1 = true then 0 else 100) (if (num s k).1 = true then z else (num s k).2) ∧ Kb b w w' := by
  cases hn : (num s k).1 with
  | true =>
    obtain ⟨h1, h2, e⟩ := num_true hn
    rw [e] at hn
    rw [e, if_pos rfl, if_pos rfl]
    exact rnumber_ok b c k z ta s w hs hc hk h h1 h2 hn
  | false =>
    rw [if_neg (by simp), if_neg (by simp)]
    rcases num_false hn with ⟨h1, e⟩ | ⟨h1, h2, e⟩ | ⟨h1, h2, h3, e⟩
    · rw [e]; exact rnumber_bad2 b c k z ta s w hs hc hk h h1
    · rw [e]; exact rnumber_bad3 b c k z ta s w hs hc hk h h1 h2
    · rw [e]; exact rnumber_bad4 b c k z ta s w hs hc hk h h1 h2 h3
end Go.Proofs.YteonapeoeckhfaaDoor
