import Derived.Test.YteonapeoeckhfaaDoorJ3
set_option linter.unusedVariables false
set_option linter.unusedSimpArgs false
namespace Go.Proofs.YteonapeoeckhfaaDoor
open Go.RowKit Go.Shelf
theorem num_false {s : List UInt8} {k : Nat} (h : (num s k).1 = false) :
    ((nu2 s (nu1 s k)).1 = false ∧ num s k = nu2 s (nu1 s k)) ∨
    ((nu2 s (nu1 s k)).1 = true ∧ (nu3 s (nu2 s (nu1 s k)).2).1 = false ∧ num s k = nu3 s (nu2 s (nu1 s k)).2) ∨
    ((nu2 s (nu1 s k)).1 = true ∧ (nu3 s (nu2 s (nu1 s k)).2).1 = true ∧ (nu4 s (nu3 s (nu2 s (nu1 s k)).2).2).1 = false ∧ num s k = nu4 s (nu3 s (nu2 s (nu1 s k)).2).2) := by
  unfold num at h ⊢
  dsimp only at h ⊢
  cases h1 : (nu2 s (nu1 s k)).1 with
  | false => left; simp
  | true =>
    rw [h1] at h
    right
    simp only [if_true] at h ⊢
    cases h2 : (nu3 s (nu2 s (nu1 s k)).2).1 with
    | false => left; simp
    | true => right; rw [h2] at h; simp only [if_true] at h; simp [h]
theorem nu2_bad {s : List UInt8} {k : Nat} (h : (nu2 s k).1 = false) : tk s [48] k = false ∧ (dg s k).1 = false ∧ (nu2 s k).2 = (dg s k).2 := by
  unfold nu2 at h ⊢
  cases h1 : tk s [48] k with
  | true => rw [h1] at h; simp at h
  | false => rw [h1] at h; exact ⟨rfl, h, rfl⟩
theorem nu3_bad {s : List UInt8} {k : Nat} (h : (nu3 s k).1 = false) : tk s [46] k = true ∧ (dg s (k + 1)).1 = false ∧ (nu3 s k).2 = (dg s (k + 1)).2 := by
  unfold nu3 at h ⊢
  cases h1 : tk s [46] k with
  | false => rw [h1] at h; simp at h
  | true => rw [h1] at h; exact ⟨rfl, h, rfl⟩
theorem nu4_bad {s : List UInt8} {k : Nat} (h : (nu4 s k).1 = false) : tk s [101, 69] k = true ∧ (dg s (nu5 s (k + 1))).1 = false ∧ (nu4 s k).2 = (dg s (nu5 s (k + 1))).2 := by
  unfold nu4 at h ⊢
  cases h1 : tk s [101, 69] k with
  | false => rw [h1] at h; simp at h
  | true => rw [h1] at h; exact ⟨rfl, h, rfl⟩
set_option maxRecDepth 100000 in
set_option maxHeartbeats 4000000 in
theorem number_bad2 (hI : IxC) (b c k : Nat) (ta : Option Addr) (s : List UInt8) (w : World) (hs : s.length ≤ 140737488355328) (hk : k ≤ s.length) (h : Rp w b ta c s k) (hn : (nu2 s (nu1 s k)).1 = false) :
    Calls Tryd.prog 78 #[.pointer (some ⟨b, 0, none⟩)] w fun e w' => e = .panicked [PE 100 (nu2 s (nu1 s k)).2] ∧ Kb b w w' := by
  obtain ⟨t2, d2, eI⟩ := nu2_bad hn
  have hk1 := nu1_le hk
  clear hn
  generalize (nu2 s (nu1 s k)).2 = k2 at eI ⊢
  obtain ⟨k1, hk1e⟩ : ∃ k1, nu1 s k = k1 := ⟨_, rfl⟩
  rw [hk1e] at t2 d2 eI hk1
  have hT1 := takes_any hI b c k ta s [45] w hs hk h
  have e1 : (if tk s [45] k = true then k + 1 else k) = k1 := hk1e
  rw [e1] at hT1
  clear e1
  generalize tk s [45] k = t1 at hT1
  have c1 := h.c1
  clear h hk1e
  go_enter Tryd.func78, Tryd.ntmps78
  go_wp2_with (go_at_call 72; refine hT1.mono ?_; clear hT1; rintro e w1 ⟨rfl, r1, o1⟩)
  have hTz := takes_any hI b c k1 ta s [48] w1 hs hk1 r1
  rw [t2] at hTz
  simp only [Bool.false_eq_true, if_false] at hTz
  clear t2
  go_wp2_with (go_at_call 72; refine hTz.mono ?_; clear hTz; rintro e w2 ⟨rfl, r2, o2⟩)
  have hDz := digits_bad hI b c k1 ta s w2 hs hk1 r2 d2
  rw [← eI] at hDz
  clear eI
  go_wp2_with (go_at_call 92; refine hDz.mono ?_; clear hDz; rintro e w3 ⟨rfl, o3⟩)
  exact ⟨rfl, rfl, (o1.trans o2).trans o3⟩
set_option maxRecDepth 100000 in
set_option maxHeartbeats 4000000 in
theorem number_bad3 (hI : IxC) (b c k : Nat) (ta : Option Addr) (s : List UInt8) (w : World) (hs : s.length ≤ 140737488355328) (hk : k ≤ s.length) (h : Rp w b ta c s k) (n2 : (nu2 s (nu1 s k)).1 = true) (hn : (nu3 s (nu2 s (nu1 s k)).2).1 = false) :
    Calls Tryd.prog 78 #[.pointer (some ⟨b, 0, none⟩)] w fun e w' => e = .panicked [PE 100 (nu3 s (nu2 s (nu1 s k)).2).2] ∧ Kb b w w' := by
  obtain ⟨t3, d3, eJ⟩ := nu3_bad hn
  have hk1 := nu1_le hk
  have hk2 := nu2_le hk1
  have q2 := nu2_cases n2
  clear hn n2
  generalize (nu3 s (nu2 s (nu1 s k)).2).2 = K at eJ ⊢
  generalize (nu2 s (nu1 s k)).2 = k2 at hk2 q2 t3 d3 eJ
  obtain ⟨k1, hk1e⟩ : ∃ k1, nu1 s k = k1 := ⟨_, rfl⟩
  rw [hk1e] at q2 hk1
  have hT1 := takes_any hI b c k ta s [45] w hs hk h
  have e1 : (if tk s [45] k = true then k + 1 else k) = k1 := hk1e
  rw [e1] at hT1
  clear e1
  generalize tk s [45] k = t1 at hT1
  have c1 := h.c1
  clear h hk1e
  go_enter Tryd.func78, Tryd.ntmps78
  go_wp2_with (go_at_call 72; refine hT1.mono ?_; clear hT1; rintro e w1 ⟨rfl, r1, o1⟩)
  have hTz := takes_any hI b c k1 ta s [48] w1 hs hk1 r1
  rcases q2 with ⟨t2, eI⟩ | ⟨t2, d2, eI⟩
  · rw [t2] at hTz
    simp only [if_true] at hTz
    rw [← eI] at hTz
    clear t2 eI
    go_wp2_with (go_at_call 72; refine hTz.mono ?_; clear hTz; rintro e w2 ⟨rfl, r2, o2⟩)
    have oc := o1.trans o2
    clear o1 o2 r1
    have hTp := takes_any hI b c k2 ta s [46] w2 hs hk2 r2
    rw [t3] at hTp
    simp only [if_true] at hTp
    have hl2 := tk_lt t3
    clear t3
    go_wp2_with (go_at_call 72; refine hTp.mono ?_; clear hTp; rintro e w5 ⟨rfl, r5, o5⟩)
    have hDp := digits_bad hI b c (k2 + 1) ta s w5 hs (by omega) r5 d3
    rw [← eJ] at hDp
    clear eJ
    go_wp2_with (go_at_call 92; refine hDp.mono ?_; clear hDp; rintro e w6 ⟨rfl, o6⟩)
    exact ⟨rfl, rfl, (oc.trans o5).trans o6⟩
  · rw [t2] at hTz
    simp only [Bool.false_eq_true, if_false] at hTz
    clear t2
    go_wp2_with (go_at_call 72; refine hTz.mono ?_; clear hTz; rintro e w2 ⟨rfl, r2, o2⟩)
    have hDz := digits_ok hI b c k1 ta s w2 hs hk1 r2 d2
    rw [← eI] at hDz
    clear eI
    go_wp2_with (go_at_call 92; refine hDz.mono ?_; clear hDz; rintro e w3 ⟨rfl, r3, o3⟩)
    have oc := (o1.trans o2).trans o3
    clear o1 o2 o3 r1 r2 d2
    have hTp := takes_any hI b c k2 ta s [46] w3 hs hk2 r3
    rw [t3] at hTp
    simp only [if_true] at hTp
    have hl2 := tk_lt t3
    clear t3
    go_wp2_with (go_at_call 72; refine hTp.mono ?_; clear hTp; rintro e w5 ⟨rfl, r5, o5⟩)
    have hDp := digits_bad hI b c (k2 + 1) ta s w5 hs (by omega) r5 d3
    rw [← eJ] at hDp
    clear eJ
    go_wp2_with (go_at_call 92; refine hDp.mono ?_; clear hDp; rintro e w6 ⟨rfl, o6⟩)
    exact ⟨rfl, rfl, (oc.trans o5).trans o6⟩
set_option maxRecDepth 100000 in
set_option maxHeartbeats 4000000 in
theorem number_bad4 (hI : IxC) (b c k : Nat) (ta : Option Addr) (s : List UInt8) (w : World) (hs : s.length ≤ 140737488355328) (hk : k ≤ s.length) (h : Rp w b ta c s k) (n2 : (nu2 s (nu1 s k)).1 = true) (n3 : (nu3 s (nu2 s (nu1 s k)).2).1 = true) (hn : (nu4 s (nu3 s (nu2 s (nu1 s k)).2).2).1 = false) :
    Calls Tryd.prog 78 #[.pointer (some ⟨b, 0, none⟩)] w fun e w' => e = .panicked [PE 100 (nu4 s (nu3 s (nu2 s (nu1 s k)).2).2).2] ∧ Kb b w w' := by
  obtain ⟨t4, d4, eK⟩ := nu4_bad hn
  have hk1 := nu1_le hk
  have hk2 := nu2_le hk1
  have hk3 := nu3_le hk2
  have q2 := nu2_cases n2
  have q3 := nu3_cases n3
  clear hn n2 n3
  generalize (nu4 s (nu3 s (nu2 s (nu1 s k)).2).2).2 = K at eK ⊢
  generalize (nu3 s (nu2 s (nu1 s k)).2).2 = k3 at hk3 q3 t4 d4 eK
  generalize (nu2 s (nu1 s k)).2 = k2 at hk2 q2 q3
  obtain ⟨k1, hk1e⟩ : ∃ k1, nu1 s k = k1 := ⟨_, rfl⟩
  rw [hk1e] at q2 hk1
  have hT1 := takes_any hI b c k ta s [45] w hs hk h
  have e1 : (if tk s [45] k = true then k + 1 else k) = k1 := hk1e
  rw [e1] at hT1
  clear e1
  generalize tk s [45] k = t1 at hT1
  have c1 := h.c1
  clear h hk1e
  go_enter Tryd.func78, Tryd.ntmps78
  go_wp2_with (go_at_call 72; refine hT1.mono ?_; clear hT1; rintro e w1 ⟨rfl, r1, o1⟩)
  have hTz := takes_any hI b c k1 ta s [48] w1 hs hk1 r1
  rcases q2 with ⟨t2, eI⟩ | ⟨t2, d2, eI⟩
  · rw [t2] at hTz
    simp only [if_true] at hTz
    rw [← eI] at hTz
    clear t2 eI
    go_wp2_with (go_at_call 72; refine hTz.mono ?_; clear hTz; rintro e w2 ⟨rfl, r2, o2⟩)
    have oc := o1.trans o2
    clear o1 o2 r1
    have hTp := takes_any hI b c k2 ta s [46] w2 hs hk2 r2
    rcases q3 with ⟨t3, d3, eJ⟩ | ⟨t3, eJ⟩
    · rw [t3] at hTp
      simp only [if_true] at hTp
      have hl2 := tk_lt t3
      clear t3
      go_wp2_with (go_at_call 72; refine hTp.mono ?_; clear hTp; rintro e w5 ⟨rfl, r5, o5⟩)
      have hDp := digits_ok hI b c (k2 + 1) ta s w5 hs (by omega) r5 d3
      rw [← eJ] at hDp
      clear eJ
      go_wp2_with (go_at_call 92; refine hDp.mono ?_; clear hDp; rintro e w6 ⟨rfl, r6, o6⟩)
      have ob := (oc.trans o5).trans o6
      clear d3 o5 o6 r5
      have hTe := takes_any hI b c k3 ta s [101, 69] w6 hs hk3 r6
      rw [t4] at hTe
      simp only [if_true] at hTe
      have hl3 := tk_lt t4
      clear t4
      go_wp2_with (go_at_call 72; refine hTe.mono ?_; clear hTe; rintro e w10 ⟨rfl, r10, o10⟩)
      have hTs := takes_any hI b c (k3 + 1) ta s [43, 45] w10 hs (by omega) r10
      have e5 : (if tk s [43, 45] (k3 + 1) = true then k3 + 1 + 1 else k3 + 1) = nu5 s (k3 + 1) := rfl
      have h5 := nu5_le (s := s) (k := k3 + 1) (by omega)
      rw [e5] at hTs
      clear e5
      generalize tk s [43, 45] (k3 + 1) = t5 at hTs
      generalize nu5 s (k3 + 1) = k5 at hTs h5 d4 eK
      go_wp2_with (go_at_call 72; refine hTs.mono ?_; clear hTs; rintro e w11 ⟨rfl, r11, o11⟩)
      have hDs := digits_bad hI b c k5 ta s w11 hs h5 r11 d4
      rw [← eK] at hDs
      clear eK
      go_wp2_with (go_at_call 92; refine hDs.mono ?_; clear hDs; rintro e w12 ⟨rfl, o12⟩)
      exact ⟨rfl, rfl, ((ob.trans o10).trans o11).trans o12⟩
    · rw [t3] at hTp
      simp only [Bool.false_eq_true, if_false] at hTp
      rw [← eJ] at hTp
      clear t3 eJ
      go_wp2_with (go_at_call 72; refine hTp.mono ?_; clear hTp; rintro e w6 ⟨rfl, r6, o6⟩)
      have ob := oc.trans o6
      clear o6
      have hTe := takes_any hI b c k3 ta s [101, 69] w6 hs hk3 r6
      rw [t4] at hTe
      simp only [if_true] at hTe
      have hl3 := tk_lt t4
      clear t4
      go_wp2_with (go_at_call 72; refine hTe.mono ?_; clear hTe; rintro e w10 ⟨rfl, r10, o10⟩)
      have hTs := takes_any hI b c (k3 + 1) ta s [43, 45] w10 hs (by omega) r10
      have e5 : (if tk s [43, 45] (k3 + 1) = true then k3 + 1 + 1 else k3 + 1) = nu5 s (k3 + 1) := rfl
      have h5 := nu5_le (s := s) (k := k3 + 1) (by omega)
      rw [e5] at hTs
      clear e5
      generalize tk s [43, 45] (k3 + 1) = t5 at hTs
      generalize nu5 s (k3 + 1) = k5 at hTs h5 d4 eK
      go_wp2_with (go_at_call 72; refine hTs.mono ?_; clear hTs; rintro e w11 ⟨rfl, r11, o11⟩)
      have hDs := digits_bad hI b c k5 ta s w11 hs h5 r11 d4
      rw [← eK] at hDs
      clear eK
      go_wp2_with (go_at_call 92; refine hDs.mono ?_; clear hDs; rintro e w12 ⟨rfl, o12⟩)
      exact ⟨rfl, rfl, ((ob.trans o10).trans o11).trans o12⟩
  · rw [t2] at hTz
    simp only [Bool.false_eq_true, if_false] at hTz
    clear t2
    go_wp2_with (go_at_call 72; refine hTz.mono ?_; clear hTz; rintro e w2 ⟨rfl, r2, o2⟩)
    have hDz := digits_ok hI b c k1 ta s w2 hs hk1 r2 d2
    rw [← eI] at hDz
    clear eI
    go_wp2_with (go_at_call 92; refine hDz.mono ?_; clear hDz; rintro e w3 ⟨rfl, r3, o3⟩)
    have oc := (o1.trans o2).trans o3
    clear o1 o2 o3 r1 r2 d2
    have hTp := takes_any hI b c k2 ta s [46] w3 hs hk2 r3
    rcases q3 with ⟨t3, d3, eJ⟩ | ⟨t3, eJ⟩
    · rw [t3] at hTp
      simp only [if_true] at hTp
      have hl2 := tk_lt t3
      clear t3
      go_wp2_with (go_at_call 72; refine hTp.mono ?_; clear hTp; rintro e w5 ⟨rfl, r5, o5⟩)
      have hDp := digits_ok hI b c (k2 + 1) ta s w5 hs (by omega) r5 d3
      rw [← eJ] at hDp
      clear eJ
      go_wp2_with (go_at_call 92; refine hDp.mono ?_; clear hDp; rintro e w6 ⟨rfl, r6, o6⟩)
      have ob := (oc.trans o5).trans o6
      clear d3 o5 o6 r5
      have hTe := takes_any hI b c k3 ta s [101, 69] w6 hs hk3 r6
      rw [t4] at hTe
      simp only [if_true] at hTe
      have hl3 := tk_lt t4
      clear t4
      go_wp2_with (go_at_call 72; refine hTe.mono ?_; clear hTe; rintro e w10 ⟨rfl, r10, o10⟩)
      have hTs := takes_any hI b c (k3 + 1) ta s [43, 45] w10 hs (by omega) r10
      have e5 : (if tk s [43, 45] (k3 + 1) = true then k3 + 1 + 1 else k3 + 1) = nu5 s (k3 + 1) := rfl
      have h5 := nu5_le (s := s) (k := k3 + 1) (by omega)
      rw [e5] at hTs
      clear e5
      generalize tk s [43, 45] (k3 + 1) = t5 at hTs
      generalize nu5 s (k3 + 1) = k5 at hTs h5 d4 eK
      go_wp2_with (go_at_call 72; refine hTs.mono ?_; clear hTs; rintro e w11 ⟨rfl, r11, o11⟩)
      have hDs := digits_bad hI b c k5 ta s w11 hs h5 r11 d4
      rw [← eK] at hDs
      clear eK
      go_wp2_with (go_at_call 92; refine hDs.mono ?_; clear hDs; rintro e w12 ⟨rfl, o12⟩)
      exact ⟨rfl, rfl, ((ob.trans o10).trans o11).trans o12⟩
    · rw [t3] at hTp
      simp only [Bool.false_eq_true, if_false] at hTp
      rw [← eJ] at hTp
      clear t3 eJ
      go_wp2_with (go_at_call 72; refine hTp.mono ?_; clear hTp; rintro e w6 ⟨rfl, r6, o6⟩)
      have ob := oc.trans o6
      clear o6
      have hTe := takes_any hI b c k3 ta s [101, 69] w6 hs hk3 r6
      rw [t4] at hTe
      simp only [if_true] at hTe
      have hl3 := tk_lt t4
      clear t4
      go_wp2_with (go_at_call 72; refine hTe.mono ?_; clear hTe; rintro e w10 ⟨rfl, r10, o10⟩)
      have hTs := takes_any hI b c (k3 + 1) ta s [43, 45] w10 hs (by omega) r10
      have e5 : (if tk s [43, 45] (k3 + 1) = true then k3 + 1 + 1 else k3 + 1) = nu5 s (k3 + 1) := rfl
      have h5 := nu5_le (s := s) (k := k3 + 1) (by omega)
      rw [e5] at hTs
      clear e5
      generalize tk s [43, 45] (k3 + 1) = t5 at hTs
      generalize nu5 s (k3 + 1) = k5 at hTs h5 d4 eK
      go_wp2_with (go_at_call 72; refine hTs.mono ?_; clear hTs; rintro e w11 ⟨rfl, r11, o11⟩)
      have hDs := digits_bad hI b c k5 ta s w11 hs h5 r11 d4
      rw [← eK] at hDs
      clear eK
      go_wp2_with (go_at_call 92; refine hDs.mono ?_; clear hDs; rintro e w12 ⟨rfl, o12⟩)
      exact ⟨rfl, rfl, ((ob.trans o10).trans o11).trans o12⟩
theorem number_bad (hI : IxC) (b c k : Nat) (ta : Option Addr) (s : List UInt8) (w : World) (hs : s.length ≤ 140737488355328) (hk : k ≤ s.length) (h : Rp w b ta c s k) (hn : (num s k).1 = false) :
    Calls Tryd.prog 78 #[.pointer (some ⟨b, 0, none⟩)] w fun e w' => e = .panicked [PE 100 (num s k).2] ∧ Kb b w w' := by
  rcases num_false hn with ⟨h1, e⟩ | ⟨h1, h2, e⟩ | ⟨h1, h2, h3, e⟩
  · rw [e]; exact number_bad2 hI b c k ta s w hs hk h h1
  · rw [e]; exact number_bad3 hI b c k ta s w hs hk h h1 h2
  · rw [e]; exact number_bad4 hI b c k ta s w hs hk h h1 h2 h3
end Go.Proofs.YteonapeoeckhfaaDoor
