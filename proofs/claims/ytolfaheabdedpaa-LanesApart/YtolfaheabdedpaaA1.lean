import Derived.Test.YtolfaheabdedpaaBG
import Derived.Test.YtolfaheabdedpaaX6
import Derived.Test.YtolfaheabdedpaaFl
set_option linter.unusedVariables false
set_option linter.unusedSimpArgs false
namespace Go.Proofs.Ytolfaheabdedpaa
open Go.RowKit Go.Shelf
attribute [local go_sem] run_store_float
theorem eqI_symm (c : Int) (x : Nat) : (FloatKind.f64.format.order (floatOfInt FloatKind.f64 c) x == some .eq) = eqI c x := by
  show (Ieee.double.order (floatOfInt FloatKind.f64 c) x == some .eq) = (Ieee.double.order x (floatOfInt FloatKind.f64 c) == some .eq)
  generalize floatOfInt FloatKind.f64 c = y
  by_cases h : isNaN y ∨ isNaN x
  · rw [order_nan y x h, order_nan x y h.symm]
  · have h1 : ¬ isNaN y := fun e => h (.inl e)
    have h2 : ¬ isNaN x := fun e => h (.inr e)
    rw [order_ky y x h1 h2, order_ky x y h2 h1]
    rw [Bool.eq_iff_iff]
    simp only [beq_iff_eq, Option.some.injEq]
    constructor
    · intro e; rw [Std.compare_eq_iff_eq.1 e]; exact Std.compare_self
    · intro e; rw [Std.compare_eq_iff_eq.1 e]; exact Std.compare_self
theorem nan_iff (x : Nat) : nanB x = true ↔ isNaN x := by
  unfold nanB
  show (!(Ieee.double.order x x == some .eq)) = true ↔ _
  by_cases h : isNaN x
  · rw [order_nan x x (.inl h)]; simp [h]
  · rw [order_ky x x h h, Std.compare_self]; simp [h]
theorem nan_am (l : List Int) (k x : Nat) (h : nanB x = true) : amT l k x = false := by
  unfold amT
  rw [List.any_eq_false]
  intro c _
  have hn := (nan_iff x).1 h
  show ¬ (Ieee.double.order x (floatOfInt FloatKind.f64 c) == some .eq) = true
  rw [order_nan x _ (.inl hn)]
  simp
/-- What is above the higher is above the lower. -/
theorem gt_of_gt (x lo hi : Nat) (hlo : nanB lo = false) (hhi : nanB hi = false) (hle : gtB hi lo = false) (h : gtB hi x = true) : gtB lo x = true := by
  have n1 : ¬ isNaN lo := fun e => by rw [(nan_iff lo).2 e] at hlo; cases hlo
  have n2 : ¬ isNaN hi := fun e => by rw [(nan_iff hi).2 e] at hhi; cases hhi
  unfold gtB at *
  change (Ieee.double.order lo hi == some .gt) = false at hle
  change (Ieee.double.order x hi == some .gt) = true at h
  show (Ieee.double.order x lo == some .gt) = true
  by_cases n3 : isNaN x
  · rw [order_nan x hi (.inl n3)] at h; cases h
  · rw [order_ky x hi n3 n2] at h
    rw [order_ky lo hi n1 n2] at hle
    rw [order_ky x lo n3 n1]
    simp only [beq_iff_eq, Option.some.injEq] at h ⊢
    simp only [beq_eq_false_iff_ne, ne_eq, Option.some.injEq] at hle
    rw [Int.compare_eq_gt] at h hle ⊢
    omega
theorem above_le (X : Nat → Nat) (lo hi : Nat) (hlo : nanB lo = false) (hhi : nanB hi = false) (hle : gtB hi lo = false) : bt (fun i => gtB hi (X i)) 8 &&& (255 - bt (fun i => gtB lo (X i)) 8) = 0 := by
  rw [bt_andn]
  have : bt (fun i => gtB hi (X i) && !gtB lo (X i)) 8 = bt (fun _ => false) 8 := by
    refine bt_congr fun i _ => ?_
    cases h : gtB hi (X i)
    · rfl
    · rw [gt_of_gt (X i) lo hi hlo hhi hle h]; rfl
  rw [this]; rfl
theorem apart0 (X : Nat → Nat) (l : List Int) : bits .and .u8 ((bt (fun i => nanB (X i)) 8 : Nat) : Int) ((ouK X l l.length : Nat) : Int) = 0 := by
  rw [u8_and_nat _ _ (bt_lt8 _ (Nat.le_refl _)) (ouK_lt _ _ _)]
  have : bt (fun i => nanB (X i)) 8 &&& ouK X l l.length = 0 := by
    apply Nat.eq_of_testBit_eq
    intro i
    unfold ouK
    rw [Nat.testBit_and, bt_test, bt_test]
    cases nanB (X i) <;> simp
  rw [this]; rfl
theorem gt_facts (lo hi : Nat) (h : gtB hi lo = true) : nanB lo = false ∧ nanB hi = false ∧ gtB lo hi = false := by
  have h' : (Ieee.double.order lo hi == some .gt) = true := h
  have n1 : ¬ isNaN lo := fun e => by rw [order_nan lo hi (.inl e)] at h'; cases h'
  have n2 : ¬ isNaN hi := fun e => by rw [order_nan lo hi (.inr e)] at h'; cases h'
  refine ⟨?_, ?_, ?_⟩
  · cases e : nanB lo
    · rfl
    · exact absurd ((nan_iff lo).1 e) n1
  · cases e : nanB hi
    · rfl
    · exact absurd ((nan_iff hi).1 e) n2
  · show (Ieee.double.order hi lo == some .gt) = false
    rw [order_ky lo hi n1 n2] at h'
    rw [order_ky hi lo n2 n1]
    simp only [beq_iff_eq, Option.some.injEq] at h'
    rw [Int.compare_eq_gt] at h'
    simp only [beq_eq_false_iff_ne, ne_eq, Option.some.injEq]
    rw [Int.compare_eq_gt]
    omega
theorem bit8 (B n : Nat) (hb : B < 256) (hn : n < 8) : bits .and .u8 ((B : Int) / 2 ^ n) 1 = if B.testBit n then 1 else 0 := by
  have e1 : (B : Int) / 2 ^ n = ((B / 2 ^ n : Nat) : Int) := by
    rw [Int.natCast_ediv]; congr 1
  have e2 : B / 2 ^ n < 256 := Nat.lt_of_le_of_lt (Nat.div_le_self _ _) hb
  have e3 : bits .and .u8 ((B / 2 ^ n : Nat) : Int) 1 = ((B / 2 ^ n &&& 1 : Nat) : Int) := u8_and_nat (B / 2 ^ n) 1 e2 (by omega)
  rw [e1, e3, Nat.and_one_is_mod, Nat.testBit_eq_decide_div_mod_eq]
  have : B / 2 ^ n % 2 = 0 ∨ B / 2 ^ n % 2 = 1 := by omega
  rcases this with h | h <;> rw [h] <;> simp
set_option maxRecDepth 100000 in
set_option maxHeartbeats 4000000 in
theorem law_apart (X : Nat → Nat) (a : Option Addr) (c : Nat) (l : List Int) (lo hi : Nat) (w : World) (hl : l.length ≤ 17592186044416) (hr : RdI w a l) :
    Calls Try.prog 6 #[LV X, .slice a l.length c, .float .f64 lo, .float .f64 hi] w fun e w' => e = .returned (.bool true) ∧ Keep w w' := by
  have k0 : Keep w (w.alloc (LC X)) := (Keep.refl w).alloc _
  have hcell : Hid (∀ i, i < 8 → (w.alloc (LC X)).cell? ⟨w.heap.size, i, none⟩ = some (.float .f64 (X i))) := fun i hi => laneCell X w i hi
  have h21 := begins_any (w.alloc (LC X))
  have hm := fun (wx : World) (k : Keep (w.alloc (LC X)) wx) => held_mk hcell.out k
  have h18 := fun (wx : World) => Lost_any X wx
  have h16 := fun (wx : World) (k : Keep w wx) => Outside_any X a c l wx hl (hr.keep k)
  unfold Held at hm
  have hand := apart0 X l
  have HB1 : Hid (bt (fun i => nanB (X i)) 8 = bt (fun i => nanB (X i)) 8) := rfl
  have hb1 : bt (fun i => nanB (X i)) 8 < 256 := bt_lt8 _ (Nat.le_refl _)
  have hb2 := ouK_lt X l l.length
  have HT1 : Hid (∀ i, i < 8 → (bt (fun i => nanB (X i)) 8).testBit i = nanB (X i)) := fun i hi => by rw [bt_test]; simp [hi]
  have HT2 : Hid (∀ i, i < 8 → (ouK X l l.length).testBit i = (!nanB (X i) && !amT l l.length (X i))) := fun i hi => by unfold ouK; rw [bt_test]; simp [hi]
  generalize bt (fun i => nanB (X i)) 8 = B1 at *
  generalize ouK X l l.length = B2 at *
  go_enter Try.func6, Try.ntmps6
  go_upto_region 7 with (first
    | (go_at_call 21; refine h21.mono ?_; rintro e w1 ⟨rfl, k1⟩; obtain ⟨-, c0, c1, c2, c3, c4, c5, c6, c7⟩ := hm _ k1)
    | (go_at_call 18; refine (h18 _).mono ?_; rintro e w2 ⟨rfl, k2⟩; have k12 := k1.trans k2; have k02 := k0.trans k12; obtain ⟨-, d0, d1, d2, d3, d4, d5, d6, d7⟩ := hm _ k12)
    | (go_at_call 16; refine (h16 _ k02).mono ?_; rintro e w3 ⟨rfl, k3⟩; have k13 := k12.trans k3))
  clear c0 c1 c2 c3 c4 c5 c6 c7 d0 d1 d2 d3 d4 d5 d6 d7 hand
  go_wp2_with fail
  go_loopw [11] (fun i wr => ∃ n : Nat, n ≤ 8 ∧ i = .int .i64 n ∧ Keep (w.alloc (LC X)) wr) (fun i _ => 8 - (intOf i).toNat)
  case atStart => exact ⟨0, by omega, rfl, k13⟩
  case round =>
    obtain ⟨n, hn, rfl, kw⟩ := hrel
    by_cases hnl : n < 8
    · have hnc : (n : Int) < 8 := by omega
      obtain ⟨wo, hwo⟩ : ∃ wo, wo = wr := ⟨_, rfl⟩
      subst hwo
      go_wp2_with fail
      go_loopw [12, 13] (fun b i wr => ∃ k : Nat, k ≤ l.length ∧ i = .int .i64 k ∧ b = .bool (amT l k (X n)) ∧ Keep (w.alloc (LC X)) wr) (fun _ i _ => l.length - (intOf i).toNat)
      case atStart => exact ⟨0, by omega, rfl, by rw [amT_zero], kw⟩
      case round =>
        obtain ⟨k, hk, rfl, rfl, kr⟩ := hrel
        by_cases hkl : k < l.length
        · have hkc : (k : Int) < (l.length : Int) := by omega
          obtain ⟨b1, o1, rfl, c1⟩ := (hr.keep (k0.trans kr)) k hkl
          have cx := kr.cell (hcell.out n hnl)
          have hS : Hid (amT l (k + 1) (X n) = (amT l k (X n) || eqI (l.getD k 0) (X n))) := amT_succ l k _ hkl
          have hE := eqI_symm (l.getD k 0) (X n)
          generalize amT l k (X n) = A at *
          generalize eqI (l.getD k 0) (X n) = E at *
          generalize l.getD k 0 = y at *
          cases A
          · cases E
            all_goals
              go_wp2_with fail
              go_quiet (fail)
              go_wp2_with fail
              go_roundw
              case rel => exact ⟨k + 1, by omega, by go_num, by rw [hS.out]; rfl, kr.drewN _⟩
              case measure => simp [intOf]; omega
          · go_wp2_with fail
            go_quiet (fail)
            go_wp2_with fail
            go_roundw
            case rel => exact ⟨k + 1, by omega, by go_num, by rw [hS.out]; simp, kr.drewN _⟩
            case measure => simp [intOf]; omega
        · have hkc : ¬ (k : Int) < (l.length : Int) := by omega
          obtain rfl : k = l.length := by omega
          have cx := kr.cell (hcell.out n hnl)
          have ho := u8_or_nat B1 B2 hb1 hb2
          have hb3 : B1 ||| B2 < 256 := Nat.or_lt_two_pow (n := 8) hb1 hb2
          have t1 := HT1.out n hnl
          have t2 := HT2.out n hnl
          have h54 := bit8 (B1 ||| B2) n hb3 hnl
          have h69 := bit8 B1 n hb1 hnl
          rw [Nat.testBit_or, t1, t2] at h54
          rw [t1] at h69
          have hna : nanB (X n) = true → amT l l.length (X n) = false := nan_am l l.length (X n)
          have hnn : (FloatKind.f64.format.order (X n) (X n) != some .eq) = nanB (X n) := rfl
          generalize B1 ||| B2 = B3 at *
          generalize amT l l.length (X n) = A at *
          generalize nanB (X n) = E at *
          clear t1 t2 hb3 HT1 HT2
          cases E
          · clear hna
            cases A
            all_goals
              simp only [Bool.false_or, Bool.not_false, Bool.not_true, Bool.true_and, Bool.and_false, Bool.and_true, Bool.false_eq_true, if_true, if_false] at h54 h69
              go_wp2_with fail
              go_quiet (fail)
              go_wp2_with fail
              go_roundw
              case rel => exact ⟨n + 1, by omega, by go_num, kr.drewN _⟩
              case measure => simp [intOf]; omega
          · obtain rfl : A = false := hna rfl
            clear hna
            simp only [Bool.true_or, Bool.not_false, Bool.not_true, Bool.true_and, Bool.and_false, Bool.and_true, Bool.false_eq_true, if_true, if_false] at h54 h69
            go_wp2_with fail
            go_quiet (fail)
            go_wp2_with fail
            go_roundw
            case rel => exact ⟨n + 1, by omega, by go_num, kr.drewN _⟩
            case measure => simp [intOf]; omega
    · have hnc : ¬ (n : Int) < 8 := by omega
      have hc4 : Hid (∀ i, i < 8 → wr.cell? ⟨w.heap.size, i, none⟩ = some (.float .f64 (X i))) := fun i hi => kw.cell (hcell.out i hi)
      have kw0 := k0.trans kw
      have q1 : (FloatKind.f64.format.order lo lo != some .eq) = nanB lo := rfl
      have q2 : (FloatKind.f64.format.order hi hi != some .eq) = nanB hi := rfl
      have q3 : (FloatKind.f64.format.order lo hi == some .gt) = gtB hi lo := rfl
      clear HT1 HT2 hm h16 h18 h21 hcell hr kw k0
      cases hs : gtB hi lo
      · rw [hs] at q3
        cases nlo : nanB lo
        · cases nhi : nanB hi
          · rw [nlo] at q1
            rw [nhi] at q2
            have hle := hs
            clear hs
            have hA := fun (wx : World) => Above_any X hi wx
            have hA2 := fun (wx : World) => Above_any X lo wx
            have hz := above_le X lo hi nlo nhi hle
            have l1 : bt (fun i => gtB hi (X i)) 8 < 256 := bt_lt8 _ (Nat.le_refl _)
            have l2 : bt (fun i => gtB lo (X i)) 8 < 256 := bt_lt8 _ (Nat.le_refl _)
            have hz2 := u8_andNot_nat _ _ l1 l2
            rw [hz] at hz2
            generalize bt (fun i => gtB hi (X i)) 8 = p1 at *
            generalize bt (fun i => gtB lo (X i)) 8 = p2 at *
            have hz3 : bits .andNot .u8 (p1 : Int) (p2 : Int) = 0 := hz2
            clear hz hz2 l1 l2 hle
            go_wp2_with fail
            obtain ⟨w4, hw4⟩ : ∃ w4, w4 = wr := ⟨_, rfl⟩
            subst hw4
            have hm4 := fun (wx : World) (k : Keep w4 wx) => held_mk hc4.out k
            unfold Held at hm4
            have KD : Keep w4 w4.drew := (Keep.refl w4).drew
            have SK0 := hm4 _ KD
            generalize w.heap.size = bx at *
            go_region_held3 (fun wx => Keep w4 wx ∧ wx.cell? ⟨bx, 0, none⟩ = some (.float .f64 (X 0)) ∧ wx.cell? ⟨bx, 1, none⟩ = some (.float .f64 (X 1)) ∧ wx.cell? ⟨bx, 2, none⟩ = some (.float .f64 (X 2)) ∧ wx.cell? ⟨bx, 3, none⟩ = some (.float .f64 (X 3)) ∧ wx.cell? ⟨bx, 4, none⟩ = some (.float .f64 (X 4)) ∧ wx.cell? ⟨bx, 5, none⟩ = some (.float .f64 (X 5)) ∧ wx.cell? ⟨bx, 6, none⟩ = some (.float .f64 (X 6)) ∧ wx.cell? ⟨bx, 7, none⟩ = some (.float .f64 (X 7))) (first | with_reducible exact SK2 | with_reducible exact SK1 | with_reducible exact SK0) (first
              | (go_at_call 14; refine (hA _).mono ?_; rintro e wA ⟨rfl, ka⟩; have kA := KD.trans ka; have SK1 := hm4 _ kA; clear hA)
              | (go_at_call 14; refine (hA2 _).mono ?_; rintro e wB ⟨rfl, kb⟩; have kB := kA.trans kb; have SK2 := hm4 _ kB))
            all_goals
              go_simp
              go_wp2_with fail
              go_ret
              exact ⟨rfl, kw0.trans kB⟩
          · rw [nlo] at q1
            rw [nhi] at q2
            clear hs
            go_wp2_with fail
            go_quiet (fail)
            go_wp2_with fail
            go_ret
            exact ⟨rfl, kw0.drewN _⟩
        · rw [nlo] at q1
          clear hs
          go_wp2_with fail
          go_quiet (fail)
          go_wp2_with fail
          go_ret
          exact ⟨rfl, kw0.drewN _⟩
      · obtain ⟨nlo, nhi, hle⟩ := gt_facts lo hi hs
        rw [hs] at q3
        rw [nlo] at q1
        rw [nhi] at q2
        clear hs
        have hA := fun (wx : World) => Above_any X lo wx
        have hA2 := fun (wx : World) => Above_any X hi wx
        have hz := above_le X hi lo nhi nlo hle
        have l1 : bt (fun i => gtB lo (X i)) 8 < 256 := bt_lt8 _ (Nat.le_refl _)
        have l2 : bt (fun i => gtB hi (X i)) 8 < 256 := bt_lt8 _ (Nat.le_refl _)
        have hz2 := u8_andNot_nat _ _ l1 l2
        rw [hz] at hz2
        generalize bt (fun i => gtB lo (X i)) 8 = p1 at *
        generalize bt (fun i => gtB hi (X i)) 8 = p2 at *
        have hz3 : bits .andNot .u8 (p1 : Int) (p2 : Int) = 0 := hz2
        clear hz hz2 l1 l2 hle
        go_wp2_with fail
        obtain ⟨w4, hw4⟩ : ∃ w4, w4 = wr := ⟨_, rfl⟩
        subst hw4
        have hm4 := fun (wx : World) (k : Keep w4 wx) => held_mk hc4.out k
        unfold Held at hm4
        have KD : Keep w4 w4.drew := (Keep.refl w4).drew
        have SK0 := hm4 _ KD
        generalize w.heap.size = bx at *
        go_region_held3 (fun wx => Keep w4 wx ∧ wx.cell? ⟨bx, 0, none⟩ = some (.float .f64 (X 0)) ∧ wx.cell? ⟨bx, 1, none⟩ = some (.float .f64 (X 1)) ∧ wx.cell? ⟨bx, 2, none⟩ = some (.float .f64 (X 2)) ∧ wx.cell? ⟨bx, 3, none⟩ = some (.float .f64 (X 3)) ∧ wx.cell? ⟨bx, 4, none⟩ = some (.float .f64 (X 4)) ∧ wx.cell? ⟨bx, 5, none⟩ = some (.float .f64 (X 5)) ∧ wx.cell? ⟨bx, 6, none⟩ = some (.float .f64 (X 6)) ∧ wx.cell? ⟨bx, 7, none⟩ = some (.float .f64 (X 7))) (first | with_reducible exact SK2 | with_reducible exact SK1 | with_reducible exact SK0) (first
          | (go_at_call 14; refine (hA _).mono ?_; rintro e wA ⟨rfl, ka⟩; have kA := KD.trans ka; have SK1 := hm4 _ kA; clear hA)
          | (go_at_call 14; refine (hA2 _).mono ?_; rintro e wB ⟨rfl, kb⟩; have kB := kA.trans kb; have SK2 := hm4 _ kB))
        all_goals
          go_simp
          go_wp2_with fail
          go_ret
          exact ⟨rfl, kw0.trans kB⟩
end Go.Proofs.Ytolfaheabdedpaa
