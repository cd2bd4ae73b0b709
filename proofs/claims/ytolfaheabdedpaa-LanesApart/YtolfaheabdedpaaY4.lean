import Derived.Test.YtolfaheabdedpaaY3
set_option linter.unusedVariables false
set_option linter.unusedSimpArgs false
namespace Go.Proofs.Ytolfaheabdedpaa
open Go.RowKit Go.Shelf
/-- Is there a row that has not d elements of z cells? -/
def badB (z : Nat) (V : List (List Nat)) (d : Nat) : Bool := V.any (fun l => l.length != d * z)
theorem badB_yes {z : Nat} {V : List (List Nat)} {d j : Nat} (hj : j < V.length) (h : (V.getD j []).length ≠ d * z) : badB z V d = true := by
  refine List.any_eq_true.2 ⟨V[j], List.getElem_mem hj, ?_⟩
  have e : V.getD j [] = V[j] := by simp [List.getD, hj]
  rw [e] at h
  simpa using h
theorem badB_no {z : Nat} {V : List (List Nat)} {d : Nat} (h : ∀ j, j < V.length → (V.getD j []).length = d * z) : badB z V d = false := by
  unfold badB
  rw [List.any_eq_false]
  intro l hl
  obtain ⟨i, hi, rfl⟩ := List.getElem_of_mem hl
  have e : V.getD i [] = V[i] := by simp [List.getD, hi]
  have := h i hi
  rw [e] at this
  simp [this]
theorem badB_all {z : Nat} {V : List (List Nat)} {d : Nat} (h : badB z V d = false) (j : Nat) (hj : j < V.length) : (V.getD j []).length = d * z := by
  unfold badB at h
  rw [List.any_eq_false] at h
  have e : V.getD j [] = V[j] := by simp [List.getD, hj]
  have := h V[j] (List.getElem_mem hj)
  rw [e]
  simpa using this
theorem shut33_any (a : Option Addr) (n c b d : Nat) (w : World) (hn : n ≤ 17592186044416) (h : w.cell? ⟨b, 0, none⟩ = some (.int .i64 (d : Nat))) :
    Calls Try.prog 33 #[.slice a n c, .pointer (some ⟨b, 0, none⟩)] w fun e w' => e = .returned (.bool (decide (n ≠ d))) ∧ w' = w := by
  by_cases hd : n = d
  · subst hd
    go_enter Try.func33, Try.ntmps33
    go_wp2_with fail
    go_ret
    exact ⟨ret_bool (by simp), rfl⟩
  · have h1 : ((n : Int) != (d : Int)) = true := by simp; omega
    have h2 : Hid (decide (n ≠ d) = true) := decide_eq_true hd
    go_enter Try.func33, Try.ntmps33
    go_wp2_with fail
    go_ret
    exact ⟨ret_bool (by rw [h2.out]), rfl⟩
set_option maxRecDepth 100000 in
set_option maxHeartbeats 1000000 in
theorem Index32_any (a : Option Addr) (c : Nat) (V : List (List Nat)) (b d : Nat) (w : World) (hl : V.length ≤ 17592186044416) (hr : RdS 1 w a V) (h : w.cell? ⟨b, 0, none⟩ = some (.int .i64 (d : Nat))) :
    Calls Try.prog 32 #[.slice a V.length c, .func (.func 33) #[] #[.pointer (some ⟨b, 0, none⟩)]] w fun e w' => ∃ i : Int, e = .returned (.int .i64 i) ∧ decide (0 ≤ i) = badB 1 V d ∧ w' = w := by
  go_enter Try.func32, Try.ntmps32
  go_wp2_with fail
  go_loop [8] (fun i => ∃ k : Nat, k ≤ V.length ∧ i = .int .i64 k ∧ Hid (∀ j, j < k → (V.getD j []).length = d * 1)) (fun i => V.length - (intOf i).toNat)
  case atStart => exact ⟨0, by omega, rfl, by intro j hj; omega⟩
  case round =>
    obtain ⟨k, hk, rfl, hinv⟩ := hrel
    by_cases hkl : k < V.length
    · have hkc : (k : Int) < (V.length : Int) := by omega
      obtain ⟨b', o, va, n, vc, rfl, c0, hn, -, -, hnl⟩ := hr k hkl
      have hC := shut33_any va n vc b d w (by omega) h
      by_cases hd : n = d
      · have hn2 : Hid (∀ j, j < k + 1 → (V.getD j []).length = d * 1) := by
          intro j hj
          rcases Nat.lt_or_ge j k with h1 | h1
          · exact hinv.out j h1
          · obtain rfl : j = k := by omega
            omega
        have e : decide (n ≠ d) = false := by simp [hd]
        rw [e] at hC
        clear hd hn hnl e
        go_wp2_with (go_at_call 33; refine hC.mono ?_; rintro e w1 ⟨rfl, rfl⟩)
        go_round
        case rel => exact ⟨k + 1, by omega, by go_num, hn2⟩
        case measure => simp [intOf]; omega
      · have HR : Hid (badB 1 V d = true) := badB_yes hkl (by omega)
        have e : decide (n ≠ d) = true := by simp [hd]
        rw [e] at hC
        clear hd hn hnl e
        go_wp2_with (go_at_call 33; refine hC.mono ?_; rintro e w1 ⟨rfl, rfl⟩)
        go_ret
        exact ⟨k, rfl, by rw [HR.out]; simp, rfl⟩
    · have hkc : ¬ (k : Int) < (V.length : Int) := by omega
      have HR : Hid (badB 1 V d = false) := badB_no (fun i hi => hinv.out i (by omega))
      go_wp2_with fail
      go_ret
      exact ⟨-1, rfl, by rw [HR.out]; rfl, rfl⟩
theorem shut35_any (a : Option Addr) (n c b d : Nat) (w : World) (hn : n ≤ 17592186044416) (h : w.cell? ⟨b, 0, none⟩ = some (.int .i64 (d : Nat))) :
    Calls Try.prog 35 #[.slice a n c, .pointer (some ⟨b, 0, none⟩)] w fun e w' => e = .returned (.bool (decide (n ≠ d))) ∧ w' = w := by
  by_cases hd : n = d
  · subst hd
    go_enter Try.func35, Try.ntmps35
    go_wp2_with fail
    go_ret
    exact ⟨ret_bool (by simp), rfl⟩
  · have h1 : ((n : Int) != (d : Int)) = true := by simp; omega
    have h2 : Hid (decide (n ≠ d) = true) := decide_eq_true hd
    go_enter Try.func35, Try.ntmps35
    go_wp2_with fail
    go_ret
    exact ⟨ret_bool (by rw [h2.out]), rfl⟩
set_option maxRecDepth 100000 in
set_option maxHeartbeats 1000000 in
theorem Index36_any (a : Option Addr) (c : Nat) (V : List (List Nat)) (b d : Nat) (w : World) (hl : V.length ≤ 17592186044416) (hr : RdS 8 w a V) (h : w.cell? ⟨b, 0, none⟩ = some (.int .i64 (d : Nat))) :
    Calls Try.prog 36 #[.slice a V.length c, .func (.func 35) #[] #[.pointer (some ⟨b, 0, none⟩)]] w fun e w' => ∃ i : Int, e = .returned (.int .i64 i) ∧ decide (0 ≤ i) = badB 8 V d ∧ w' = w := by
  go_enter Try.func36, Try.ntmps36
  go_wp2_with fail
  go_loop [8] (fun i => ∃ k : Nat, k ≤ V.length ∧ i = .int .i64 k ∧ Hid (∀ j, j < k → (V.getD j []).length = d * 8)) (fun i => V.length - (intOf i).toNat)
  case atStart => exact ⟨0, by omega, rfl, by intro j hj; omega⟩
  case round =>
    obtain ⟨k, hk, rfl, hinv⟩ := hrel
    by_cases hkl : k < V.length
    · have hkc : (k : Int) < (V.length : Int) := by omega
      obtain ⟨b', o, va, n, vc, rfl, c0, hn, -, -, hnl⟩ := hr k hkl
      have hC := shut35_any va n vc b d w (by omega) h
      by_cases hd : n = d
      · have hn2 : Hid (∀ j, j < k + 1 → (V.getD j []).length = d * 8) := by
          intro j hj
          rcases Nat.lt_or_ge j k with h1 | h1
          · exact hinv.out j h1
          · obtain rfl : j = k := by omega
            omega
        have e : decide (n ≠ d) = false := by simp [hd]
        rw [e] at hC
        clear hd hn hnl e
        go_wp2_with (go_at_call 35; refine hC.mono ?_; rintro e w1 ⟨rfl, rfl⟩)
        go_round
        case rel => exact ⟨k + 1, by omega, by go_num, hn2⟩
        case measure => simp [intOf]; omega
      · have HR : Hid (badB 8 V d = true) := badB_yes hkl (by omega)
        have e : decide (n ≠ d) = true := by simp [hd]
        rw [e] at hC
        clear hd hn hnl e
        go_wp2_with (go_at_call 35; refine hC.mono ?_; rintro e w1 ⟨rfl, rfl⟩)
        go_ret
        exact ⟨k, rfl, by rw [HR.out]; simp, rfl⟩
    · have hkc : ¬ (k : Int) < (V.length : Int) := by omega
      have HR : Hid (badB 8 V d = false) := badB_no (fun i hi => hinv.out i (by omega))
      go_wp2_with fail
      go_ret
      exact ⟨-1, rfl, by rw [HR.out]; rfl, rfl⟩
theorem firstWrong_any (a : Option Addr) (c : Nat) (V : List (List Nat)) (d : Nat) (w : World) (hl : V.length ≤ 17592186044416) (hr : RdS 1 w a V) :
    Calls Try.prog 23 #[.slice a V.length c, .int .i64 (d : Nat)] w fun e w' => ∃ i : Int, e = .returned (.int .i64 i) ∧ decide (0 ≤ i) = badB 1 V d ∧ Keep w w' := by
  have k0 : Keep w (w.alloc (Obj.cells #[Value.int .i64 (d : Nat)] 3)) := (Keep.refl w).alloc _
  have hI := Index32_any a c V w.heap.size d (w.alloc (Obj.cells #[Value.int .i64 (d : Nat)] 3)) hl (hr.keep k0) (by rw [cell_of_row _ _ 0 _ 3 (0, 0) (heap_alloc_new w _)]; rfl)
  go_enter Try.func23, Try.ntmps23
  go_wp2_with (go_at_call 32; refine hI.mono ?_; rintro e w1 ⟨i, rfl, hi, rfl⟩)
  go_ret
  exact ⟨i, rfl, hi, k0⟩
theorem Contains34_any (a : Option Addr) (c : Nat) (V : List (List Nat)) (b d : Nat) (w : World) (hl : V.length ≤ 17592186044416) (hr : RdS 8 w a V) (h : w.cell? ⟨b, 0, none⟩ = some (.int .i64 (d : Nat))) :
    Calls Try.prog 34 #[.slice a V.length c, .func (.func 35) #[] #[.pointer (some ⟨b, 0, none⟩)]] w fun e w' => e = .returned (.bool (badB 8 V d)) ∧ w' = w := by
  have hI := Index36_any a c V b d w hl hr h
  go_enter Try.func34, Try.ntmps34
  go_wp2_with (go_at_call 36; refine hI.mono ?_; rintro e w1 ⟨i, rfl, hi, rfl⟩)
  go_ret
  exact ⟨rfl, rfl⟩
/-- How many groups n vectors make. -/
def many (n : Nat) : Nat := (n + 7) / 8
theorem areGroups_any (a : Option Addr) (c : Nat) (V : List (List Nat)) (n d : Nat) (w : World) (hl : V.length ≤ 17592186044416) (hn : n ≤ 9223372036854775807) (hr : RdS 8 w a V) :
    Calls Try.prog 26 #[.slice a V.length c, .int .i64 (n : Nat), .int .i64 (d : Nat)] w fun e w' => e = .returned (.bool (decide (V.length = many n) && !badB 8 V d)) ∧ Keep w w' := by
  have k0 : Keep w (w.alloc (Obj.cells #[Value.int .i64 (d : Nat)] 3)) := (Keep.refl w).alloc _
  have hI := Contains34_any a c V w.heap.size d (w.alloc (Obj.cells #[Value.int .i64 (d : Nat)] 3)) hl (hr.keep k0) (by rw [cell_of_row _ _ 0 _ 3 (0, 0) (heap_alloc_new w _)]; rfl)
  generalize badB 8 V d = B at *
  have hq : (n : Int).tdiv 8 = ((n / 8 : Nat) : Int) := by rw [Int.tdiv_eq_ediv_of_nonneg (by omega)]; omega
  have hm : (n : Int).tmod 8 = ((n % 8 : Nat) : Int) := by rw [Int.tmod_eq_emod_of_nonneg (by omega)]; omega
  have h0 : (0 : Int) ≤ (n : Int) := by omega
  have h1 : (n : Int) ≤ 9223372036854775807 := by omega
  by_cases hr8 : 0 < n % 8
  · have HM : Hid (many n = n / 8 + 1) := by show (n + 7) / 8 = _; omega
    have hrc : (0 : Int) < (n : Int) % 8 := by omega
    by_cases hV : V.length = n / 8 + 1
    · have hVB : ((V.length : Int) == (n : Int) / 8 + 1) = true := by simp; omega
      have HD : Hid (decide (V.length = many n) = true) := decide_eq_true (by rw [HM.out]; exact hV)
      replace hV : Hid _ := hV
      go_enter Try.func26, Try.ntmps26
      go_wp2_with (go_at_call 34; refine hI.mono ?_; rintro e w1 ⟨rfl, rfl⟩)
      go_ret
      exact ⟨ret_bool (by rw [HD.out]; simp), k0⟩
    · have hVB : ((V.length : Int) == (n : Int) / 8 + 1) = false := by rw [beq_eq_false_iff_ne]; omega
      have HD : Hid (decide (V.length = many n) = false) := decide_eq_false (by rw [HM.out]; exact hV)
      replace hV : Hid _ := hV
      go_enter Try.func26, Try.ntmps26
      go_wp2_with (go_at_call 34; refine hI.mono ?_; rintro e w1 ⟨rfl, rfl⟩)
      go_ret
      exact ⟨ret_bool (by rw [HD.out]; simp), k0⟩
  · have HM : Hid (many n = n / 8) := by show (n + 7) / 8 = _; omega
    have hrc : ¬ (0 : Int) < (n : Int) % 8 := by omega
    by_cases hV : V.length = n / 8
    · have hVB : ((V.length : Int) == (n : Int) / 8) = true := by simp; omega
      have HD : Hid (decide (V.length = many n) = true) := decide_eq_true (by rw [HM.out]; exact hV)
      replace hV : Hid _ := hV
      go_enter Try.func26, Try.ntmps26
      go_wp2_with (go_at_call 34; refine hI.mono ?_; rintro e w1 ⟨rfl, rfl⟩)
      go_ret
      exact ⟨ret_bool (by rw [HD.out]; simp), k0⟩
    · have hVB : ((V.length : Int) == (n : Int) / 8) = false := by rw [beq_eq_false_iff_ne]; omega
      have HD : Hid (decide (V.length = many n) = false) := decide_eq_false (by rw [HM.out]; exact hV)
      replace hV : Hid _ := hV
      go_enter Try.func26, Try.ntmps26
      go_wp2_with (go_at_call 34; refine hI.mono ?_; rintro e w1 ⟨rfl, rfl⟩)
      go_ret
      exact ⟨ret_bool (by rw [HD.out]; simp), k0⟩
end Go.Proofs.Ytolfaheabdedpaa
