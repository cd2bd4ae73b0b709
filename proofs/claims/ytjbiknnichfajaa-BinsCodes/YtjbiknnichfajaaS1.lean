import Derived.Test.YtjbiknnichfajaaB0
set_option linter.unusedVariables false
set_option linter.unusedSimpArgs false
namespace Go.Proofs.Ytjbiknnichfajaa
open Go.RowKit Go.Shelf
/-- Bits of numbers: below 2^64. -/
def W64 (l : List Nat) : Prop := ∀ j, j < l.length → l.getD j 0 < 18446744073709551616
def kys (l : List Nat) : List Nat := l.map key
theorem kys_len (l : List Nat) : (kys l).length = l.length := by simp [kys]
theorem kys_get (l : List Nat) (j : Nat) (h : j < l.length) : (kys l).getD j 0 = key (l.getD j 0) := by simp [kys, List.getD, h]
def kts (l : List Int) : List Nat := l.map kf
theorem kts_len (l : List Int) : (kts l).length = l.length := by simp [kts]
theorem kts_get (l : List Int) (j : Nat) (h : j < l.length) : (kts l).getD j 0 = kf (l.getD j 0) := by simp [kts, List.getD, h]
theorem cmpV_lt (a b : Nat) : decide (cmpV a b < 0) = decide (a < b) := by
  rw [decide_eq_decide]; unfold cmpV; split
  · simp [*]
  · split <;> simp [*]
theorem cmpV_eq (a b : Nat) : (cmpV a b == 0) = decide (a = b) := by
  unfold cmpV; split
  · simp; omega
  · split
    · simp; omega
    · simp; omega
set_option maxRecDepth 100000 in
set_option maxHeartbeats 1000000 in
theorem place_f (a : Option Addr) (c : Nat) (l : List Nat) (x : Nat) (w : World) (hl : l.length ≤ 17592186044416) (hr : RdF w a l) (hw : W64 l) (hx : x < 18446744073709551616) (hs : Rs (kys l)) :
    Calls Try.prog 38 #[.slice a l.length c, .float .f64 x, .func (.func 27) #[] #[]] w fun e w' => e = .returned (.tuple #[.int .i64 (pl (kys l) (key x) : Nat), .bool (decide (pl (kys l) (key x) < l.length ∧ (kys l).getD (pl (kys l) (key x)) 0 = key x))]) ∧ w' = w := by
  have HL : Hid ((kys l).length = l.length) := kys_len l
  have HP : Hid (∀ low, low ≤ l.length → (∀ j, j < low → (kys l).getD j 0 < key x) → (low < l.length → key x ≤ (kys l).getD low 0) → pl (kys l) (key x) = low) := fun low h1 h2 h3 => hs.low h2 (by rw [HL.out]; exact h1) (by rw [HL.out]; exact h3)
  have HC : Hid (∀ i, i < l.length → ∀ w, Calls Try.prog 27 #[.float .f64 (l.getD i 0), .float .f64 x] w fun e w' => e = .returned (.int .i64 (cmpV ((kys l).getD i 0) (key x))) ∧ w' = w) := fun i hi w => by rw [kys_get l i hi]; exact Compare_any _ _ w (hw i hi) hx
  have HS : Hid (∀ i j, i ≤ j → j < l.length → (kys l).getD i 0 ≤ (kys l).getD j 0) := fun i j h1 h2 => hs.le h1 (by rw [HL.out]; exact h2)
  generalize kys l = K at *
  clear hs hw
  generalize key x = kx at *
  go_enter Try.func38, Try.ntmps38
  go_wp2
  go_loop [8, 9] (fun lo hi => ∃ p q : Nat, lo = .int .i64 p ∧ hi = .int .i64 q ∧ p ≤ q ∧ q ≤ l.length ∧ Hid (∀ j, j < p → K.getD j 0 < kx) ∧ Hid (q < l.length → kx ≤ K.getD q 0)) (fun lo hi => (intOf hi).toNat - (intOf lo).toNat)
  case atStart => exact ⟨0, l.length, rfl, rfl, by omega, by omega, fun j hj => by omega, fun hj => by omega⟩
  case round =>
    obtain ⟨p, q, rfl, rfl, hpq, hq, H1, H2⟩ := hrel
    by_cases hlt : p < q
    · have hltc : (p : Int) < (q : Int) := by omega
      obtain ⟨m, hm⟩ : ∃ m, m = p + (q - p) / 2 := ⟨_, rfl⟩
      have hmi : (p : Int) + ((q : Int) - (p : Int)).tdiv 2 = (m : Int) := by
        rw [Int.tdiv_eq_ediv_of_nonneg (by omega)]; omega
      have hmi2 : (p : Int) + ((q : Int) - (p : Int)) / 2 = (m : Int) := by omega
      have hm1 : p ≤ m := by omega
      have hm2 : m < q := by omega
      clear hm
      have hml : m < l.length := by omega
      obtain ⟨b, o, rfl, c1⟩ := hr m hml
      have hC := HC.out m hml w
      generalize l.getD m 0 = y at c1 hC
      by_cases hk : K.getD m 0 < kx
      · have hv : cmpV (K.getD m 0) (kx) = -1 := by unfold cmpV; rw [if_pos hk]
        rw [hv] at hC
        go_wp2_with (go_at_call 27; refine hC.mono ?_; rintro e w0 ⟨rfl, rfl⟩)
        go_round
        case rel => exact ⟨m + 1, q, by go_num, rfl, by omega, hq, fun j hj => Nat.lt_of_le_of_lt (HS.out j m (by omega) hml) hk, H2⟩
        case measure => simp [intOf]; omega
      · have hv : decide (cmpV (K.getD m 0) (kx) < 0) = false := by rw [cmpV_lt]; exact decide_eq_false hk
        generalize cmpV (K.getD m 0) (kx) = cv at hC hv
        go_wp2_with (go_at_call 27; refine hC.mono ?_; rintro e w0 ⟨rfl, rfl⟩)
        go_round
        case rel => exact ⟨p, m, rfl, rfl, hm1, by omega, H1, fun _ => by omega⟩
        case measure => simp [intOf]; omega
    · have hltc : ¬ (p : Int) < (q : Int) := by omega
      obtain rfl : p = q := by omega
      have hp := HP.out p hq H1.out H2.out
      have HPE : Hid (pl K (kx) = p) := hp
      clear hp
      by_cases hpl : p < l.length
      · have hplc : (p : Int) < (l.length : Int) := by omega
        obtain ⟨b, o, rfl, c1⟩ := hr p hpl
        have hC := HC.out p hpl w
        generalize l.getD p 0 = y at c1 hC
        have Hv : Hid ((cmpV (K.getD p 0) (kx) == 0) = decide (K.getD p 0 = kx)) := cmpV_eq _ _
        generalize cmpV (K.getD p 0) (kx) = cv at hC Hv
        go_wp2_with (go_at_call 27; refine hC.mono ?_; rintro e w0 ⟨rfl, rfl⟩)
        go_ret2
        refine ⟨?_, rfl⟩
        show Ending.returned (.tuple #[.int .i64 (p : Nat), .bool (cv == 0)]) = _
        rw [Hv.out, HPE.out, show decide (p < l.length ∧ K.getD p 0 = kx) = decide (K.getD p 0 = kx) by rw [decide_eq_decide]; exact ⟨fun h => h.2, fun h => ⟨hpl, h⟩⟩]
      · have hplc : ¬ (p : Int) < (l.length : Int) := by omega
        go_wp2_with fail
        go_ret2
        refine ⟨?_, rfl⟩
        show Ending.returned (.tuple #[.int .i64 (p : Nat), .bool false]) = _
        rw [HPE.out, decide_eq_false hpl, Bool.false_and]
theorem cat_any (c : Int) (x : Nat) (w : World) (h0 : 0 ≤ c) (h1 : c < 1024) (hx : x < 18446744073709551616) :
    Calls Try.prog 26 #[.int .i64 c, .float .f64 x] w fun e w' => e = .returned (.int .i64 (cmpV (kf c) (key x))) ∧ w' = w := by
  have hC := Compare_any (FloatKind.f64.nearest c) x w (Nat.lt_trans (fl_ok h0 h1) (by omega)) hx
  go_enter Try.func26, Try.ntmps26
  go_wp2_with (go_at_call 27; refine hC.mono ?_; rintro e w' ⟨rfl, rfl⟩)
  go_ret
  exact ⟨rfl, rfl⟩
set_option maxRecDepth 100000 in
set_option maxHeartbeats 1000000 in
theorem place_i (a : Option Addr) (c : Nat) (l : List Int) (x : Nat) (w : World) (hl : l.length ≤ 17592186044416) (hr : RdI w a l) (hw : ∀ j, j < l.length → 0 ≤ l.getD j 0 ∧ l.getD j 0 < 1024) (hx : x < 18446744073709551616) (hs : Rs (kts l)) :
    Calls Try.prog 25 #[.slice a l.length c, .float .f64 x, .func (.func 26) #[] #[]] w fun e w' => e = .returned (.tuple #[.int .i64 (pl (kts l) (key x) : Nat), .bool (decide (pl (kts l) (key x) < l.length ∧ (kts l).getD (pl (kts l) (key x)) 0 = key x))]) ∧ w' = w := by
  have HL : Hid ((kts l).length = l.length) := kts_len l
  have HP : Hid (∀ low, low ≤ l.length → (∀ j, j < low → (kts l).getD j 0 < key x) → (low < l.length → key x ≤ (kts l).getD low 0) → pl (kts l) (key x) = low) := fun low h1 h2 h3 => hs.low h2 (by rw [HL.out]; exact h1) (by rw [HL.out]; exact h3)
  have HC : Hid (∀ i, i < l.length → ∀ w, Calls Try.prog 26 #[.int .i64 (l.getD i 0), .float .f64 x] w fun e w' => e = .returned (.int .i64 (cmpV ((kts l).getD i 0) (key x))) ∧ w' = w) := fun i hi w => by rw [kts_get l i hi]; exact cat_any _ _ w (hw i hi).1 (hw i hi).2 hx
  have HS : Hid (∀ i j, i ≤ j → j < l.length → (kts l).getD i 0 ≤ (kts l).getD j 0) := fun i j h1 h2 => hs.le h1 (by rw [HL.out]; exact h2)
  generalize kts l = K at *
  clear hs hw
  generalize key x = kx at *
  go_enter Try.func25, Try.ntmps25
  go_wp2
  go_loop [8, 9] (fun lo hi => ∃ p q : Nat, lo = .int .i64 p ∧ hi = .int .i64 q ∧ p ≤ q ∧ q ≤ l.length ∧ Hid (∀ j, j < p → K.getD j 0 < kx) ∧ Hid (q < l.length → kx ≤ K.getD q 0)) (fun lo hi => (intOf hi).toNat - (intOf lo).toNat)
  case atStart => exact ⟨0, l.length, rfl, rfl, by omega, by omega, fun j hj => by omega, fun hj => by omega⟩
  case round =>
    obtain ⟨p, q, rfl, rfl, hpq, hq, H1, H2⟩ := hrel
    by_cases hlt : p < q
    · have hltc : (p : Int) < (q : Int) := by omega
      obtain ⟨m, hm⟩ : ∃ m, m = p + (q - p) / 2 := ⟨_, rfl⟩
      have hmi : (p : Int) + ((q : Int) - (p : Int)).tdiv 2 = (m : Int) := by
        rw [Int.tdiv_eq_ediv_of_nonneg (by omega)]; omega
      have hmi2 : (p : Int) + ((q : Int) - (p : Int)) / 2 = (m : Int) := by omega
      have hm1 : p ≤ m := by omega
      have hm2 : m < q := by omega
      clear hm
      have hml : m < l.length := by omega
      obtain ⟨b, o, rfl, c1⟩ := hr m hml
      have hC := HC.out m hml w
      generalize l.getD m 0 = y at c1 hC
      by_cases hk : K.getD m 0 < kx
      · have hv : cmpV (K.getD m 0) (kx) = -1 := by unfold cmpV; rw [if_pos hk]
        rw [hv] at hC
        go_wp2_with (go_at_call 26; refine hC.mono ?_; rintro e w0 ⟨rfl, rfl⟩)
        go_round
        case rel => exact ⟨m + 1, q, by go_num, rfl, by omega, hq, fun j hj => Nat.lt_of_le_of_lt (HS.out j m (by omega) hml) hk, H2⟩
        case measure => simp [intOf]; omega
      · have hv : decide (cmpV (K.getD m 0) (kx) < 0) = false := by rw [cmpV_lt]; exact decide_eq_false hk
        generalize cmpV (K.getD m 0) (kx) = cv at hC hv
        go_wp2_with (go_at_call 26; refine hC.mono ?_; rintro e w0 ⟨rfl, rfl⟩)
        go_round
        case rel => exact ⟨p, m, rfl, rfl, hm1, by omega, H1, fun _ => by omega⟩
        case measure => simp [intOf]; omega
    · have hltc : ¬ (p : Int) < (q : Int) := by omega
      obtain rfl : p = q := by omega
      have hp := HP.out p hq H1.out H2.out
      have HPE : Hid (pl K (kx) = p) := hp
      clear hp
      by_cases hpl : p < l.length
      · have hplc : (p : Int) < (l.length : Int) := by omega
        obtain ⟨b, o, rfl, c1⟩ := hr p hpl
        have hC := HC.out p hpl w
        generalize l.getD p 0 = y at c1 hC
        have Hv : Hid ((cmpV (K.getD p 0) (kx) == 0) = decide (K.getD p 0 = kx)) := cmpV_eq _ _
        generalize cmpV (K.getD p 0) (kx) = cv at hC Hv
        go_wp2_with (go_at_call 26; refine hC.mono ?_; rintro e w0 ⟨rfl, rfl⟩)
        go_ret2
        refine ⟨?_, rfl⟩
        show Ending.returned (.tuple #[.int .i64 (p : Nat), .bool (cv == 0)]) = _
        rw [Hv.out, HPE.out, show decide (p < l.length ∧ K.getD p 0 = kx) = decide (K.getD p 0 = kx) by rw [decide_eq_decide]; exact ⟨fun h => h.2, fun h => ⟨hpl, h⟩⟩]
      · have hplc : ¬ (p : Int) < (l.length : Int) := by omega
        go_wp2_with fail
        go_ret2
        refine ⟨?_, rfl⟩
        show Ending.returned (.tuple #[.int .i64 (p : Nat), .bool false]) = _
        rw [HPE.out, decide_eq_false hpl, Bool.false_and]
end Go.Proofs.Ytjbiknnichfajaa
