import Derived.Test.YtonfjmibnnioiaaDoorP4
set_option linter.unusedVariables false
set_option linter.unusedSimpArgs false
namespace Go.Proofs.YtonfjmibnnioiaaDoor
open Go.RowKit Go.Shelf
/-- How far the next character stands. -/
def wdS (l : List UInt8) (p : Nat) : Nat := if wdF l p = 0 then 1 else wdF l p
theorem wdS_pos (l : List UInt8) (p : Nat) : 1 ≤ wdS l p := by unfold wdS; split <;> omega
theorem wdF_le (l : List UInt8) (p : Nat) (h : p < l.length) : p + wdF l p ≤ l.length := by
  unfold wdF
  split
  · omega
  · unfold wdG
    split
    · omega
    · split
      · omega
      · omega
theorem wdS_le (l : List UInt8) (p : Nat) (h : p < l.length) : p + wdS l p ≤ l.length := by
  have := wdF_le l p h
  unfold wdS; split <;> omega
/-- The column from a place on, so many counted. -/
def colF (l : List UInt8) (a : Int) : Nat → Nat → Nat → Nat
  | 0, _, c => c
  | f + 1, p, c => if p < l.length ∧ (p : Int) < a then colF l a f (p + wdS l p) (c + 1) else c
theorem col_more (l : List UInt8) (a : Int) : ∀ (f g p c : Nat), l.length ≤ p + f → l.length ≤ p + g → colF l a f p c = colF l a g p c
  | 0, 0, _, _, _, _ => rfl
  | 0, g + 1, p, c, h, _ => by rw [colF, colF, if_neg (by omega)]
  | f + 1, 0, p, c, _, h => by rw [colF, colF, if_neg (by omega)]
  | f + 1, g + 1, p, c, h, h' => by
    rw [colF, colF]
    split
    · have := wdS_pos l p
      exact col_more l a f g _ _ (by omega) (by omega)
    · rfl
def colA (l : List UInt8) (a : Int) (p c : Nat) : Nat := colF l a l.length p c
theorem colA_on (l : List UInt8) (a : Int) (p c : Nat) (h : p < l.length) (h2 : (p : Int) < a) : colA l a p c = colA l a (p + wdS l p) (c + 1) := by
  unfold colA
  have := wdS_pos l p
  rw [col_more l a l.length (l.length + 1) p c (by omega) (by omega), colF, if_pos ⟨h, h2⟩]
theorem colA_off (l : List UInt8) (a : Int) (p c : Nat) (h : ¬ (p < l.length ∧ (p : Int) < a)) : colA l a p c = c := by
  unfold colA
  rw [col_more l a l.length (l.length + 1) p c (by omega) (by omega), colF, if_neg h]
set_option maxRecDepth 100000 in
set_option maxHeartbeats 2000000 in
theorem Column_any (l : List UInt8) (a : Int) (w : World) (hs : l.length ≤ 1099511627776) : Calls Tryd.prog 28 #[.string ⟨l.toArray⟩, .int .i64 a] w fun e w' => e = .returned (.int .i64 (colA l a 0 1 : Nat)) ∧ Keep w w' := by
  obtain ⟨R, hR⟩ : ∃ R, colA l a 0 1 = R := ⟨_, rfl⟩
  rw [hR]
  replace hR : Hid _ := hR
  obtain ⟨s, hs0⟩ : ∃ s : ByteArray, s = ⟨l.toArray⟩ := ⟨_, rfl⟩
  have hsz : s.size = l.length := by rw [hs0]; exact sz_mk l
  rw [← hs0]
  replace hs0 : Hid _ := hs0
  go_enter Tryd.func28, Tryd.ntmps28
  go_wp2_with fail
  go_loopg [5, 6] l.length (fun g cv _ wx => ∃ (p c : Nat), p + g = l.length ∧ cv = .int .i64 c ∧ c ≤ p + 1 ∧ wx = w.iter s p ∧ Hid (colA l a p c = R))
  case atStart => exact ⟨0, 1, by omega, rfl, by omega, rfl, hR⟩
  case round =>
    obtain ⟨p, c, hpg, rfl, hcp, rfl, H⟩ := hrel
    clear hR
    by_cases hlt : p < l.length
    · have hnx := fun ty => run_next_any (P := Tryd.prog) w s p ty (by omega)
      have hwd : (Utf8.decode s p).2 = wdS l p := by rw [hs0.out, wd_decode l p hlt]; rfl
      rw [hwd] at hnx
      have h1 := wdS_pos l p
      have h2 := wdS_le l p hlt
      by_cases ha : (p : Int) < a
      · have hac : decide (a ≤ (p : Int)) = false := decide_eq_false (by omega)
        have HX : Hid (colA l a (p + wdS l p) (c + 1) = R) := by unfold Hid; rw [← H.out, colA_on l a p c hlt ha]
        generalize (Utf8.decode s p).1 = r at *
        generalize wdS l p = m at *
        clear H hwd
        go_wp2_with fail
        go_roundg (l.length - (p + m))
        case measure => omega
        case rel => exact ⟨p + m, c + 1, by omega, by go_num, by omega, rfl, HX⟩
      · have hac : decide (a ≤ (p : Int)) = true := decide_eq_true (by omega)
        have HX : Hid (c = R) := by unfold Hid; rw [← H.out, colA_off l a p c (fun h => ha h.2)]
        generalize (Utf8.decode s p).1 = r at *
        generalize wdS l p = m at *
        clear H hwd
        go_wp2_with fail
        go_ret
        exact ⟨by rw [← HX.out]; rfl, (Keep.refl w).alloc _⟩
    · have hnx := fun ty => run_next_end (P := Tryd.prog) w s p ty (by omega)
      have HX : Hid (c = R) := by unfold Hid; rw [← H.out, colA_off l a p c (fun h => hlt h.1)]
      go_wp2_with fail
      go_ret
      exact ⟨by rw [← HX.out]; rfl, (Keep.refl w).alloc _⟩
set_option maxRecDepth 100000 in
set_option maxHeartbeats 2000000 in
theorem rColumn_any (l : List UInt8) (a : Int) (w : World) (hs : l.length ≤ 1099511627776) : Calls Tryd.prog 29 #[.string ⟨l.toArray⟩, .int .i64 a] w fun e w' => e = .returned (.int .i64 (colA l a 0 1 : Nat)) ∧ w' = w := by
  obtain ⟨R, hR⟩ : ∃ R, colA l a 0 1 = R := ⟨_, rfl⟩
  rw [hR]
  replace hR : Hid _ := hR
  have hsz := sz_mk l
  go_enter Tryd.func29, Tryd.ntmps29
  go_wp2_with fail
  go_loop [5, 6] (fun cv pv => ∃ (p c : Nat), pv = .int .i64 p ∧ cv = .int .i64 c ∧ p ≤ l.length ∧ c ≤ p + 1 ∧ Hid (colA l a p c = R)) (fun _ pv => l.length - (intOf pv).toNat)
  case atStart => exact ⟨0, 1, rfl, rfl, by omega, by omega, hR⟩
  case round =>
    obtain ⟨p, c, rfl, rfl, hpl, hcp, H⟩ := hrel
    clear hR
    by_cases hlt : p < l.length
    · have hltc : decide ((p : Int) < (l.length : Int)) = true := decide_eq_true (by omega)
      by_cases ha : (p : Int) < a
      · have hac : decide ((p : Int) < a) = true := decide_eq_true ha
        have hW := fun wx => wide_any l p wx hlt hs
        have h1 := wdF_le l p hlt
        have HX := colA_on l a p c hlt ha
        rw [H.out] at HX
        unfold wdS at HX
        by_cases h0 : wdF l p = 0
        · rw [if_pos h0] at HX
          rw [h0] at hW
          replace HX : Hid (R = colA l a (p + 1) (c + 1)) := HX
          clear h0 H h1
          go_wp2_with (go_at_call 50; refine (hW _).mono ?_; rintro e w0 ⟨rfl, hw0⟩; rw [hw0]; clear hw0)
          go_round
          case rel => exact ⟨p + 1, c + 1, by go_num, by go_num, by omega, by omega, HX.out.symm⟩
          case measure => simp [intOf]; omega
        · rw [if_neg h0] at HX
          have hne : (((wdF l p : Nat) : Int) == 0) = false := by rw [beq_eq_false_iff_ne]; omega
          replace HX : Hid (R = colA l a (p + wdF l p) (c + 1)) := HX
          have hp1 : 1 ≤ wdF l p := by omega
          clear h0 H
          generalize wdF l p = m at *
          have hmb : m ≤ 1099511627776 := by omega
          go_wp2_with (go_at_call 50; refine (hW _).mono ?_; rintro e w0 ⟨rfl, hw0⟩; rw [hw0]; clear hw0)
          go_round
          case rel => exact ⟨p + m, c + 1, by go_num, by go_num, by omega, by omega, HX.out.symm⟩
          case measure => simp [intOf]; omega
      · have hac : decide ((p : Int) < a) = false := decide_eq_false ha
        have HX : Hid (c = R) := by unfold Hid; rw [← H.out, colA_off l a p c (fun h => ha h.2)]
        go_wp2_with fail
        go_ret
        exact ⟨by rw [← HX.out]; rfl, rfl⟩
    · have hltc : decide ((p : Int) < (l.length : Int)) = false := decide_eq_false (by omega)
      have HX : Hid (c = R) := by unfold Hid; rw [← H.out, colA_off l a p c (fun h => hlt h.1)]
      obtain rfl : p = l.length := by omega
      go_wp2_with fail
      go_ret
      exact ⟨by rw [← HX.out]; rfl, rfl⟩
end Go.Proofs.YtonfjmibnnioiaaDoor
