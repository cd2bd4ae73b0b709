import Derived.Test.YtpdjpjkieafnbaaGreatDoorSH6
import Derived.Test.YtpdjpjkieafnbaaGreatDoorW5
import Derived.Test.YtpdjpjkieafnbaaGreatDoorNW3
import Derived.Test.YtpdjpjkieafnbaaGreatDoorSH8
import Derived.Test.YtpdjpjkieafnbaaGreatDoorBC2
import Derived.Test.YtpdjpjkieafnbaaGreatDoorLE7
import Derived.Test.YtpdjpjkieafnbaaGreatDoorLE3
import Derived.Test.YtpdjpjkieafnbaaGreatDoorLD6
import Derived.Test.YtpdjpjkieafnbaaGreatDoorLC6
import Derived.Test.YtpdjpjkieafnbaaGreatDoorR4
import Derived.Test.YtpdjpjkieafnbaaGreatDoorR12
import Derived.Test.YtpdjpjkieafnbaaGreatDoorShelf
import Derived.Deep.CutRange
set_option linter.unusedVariables false
set_option linter.unusedSimpArgs false
namespace Go.Proofs.YtpdjpjkieafnbaaGreatDoor.Li
/-- A row without the noughts at its end. -/
def trZ (l : List UInt8) : List UInt8 := (l.reverse.dropWhile (fun c => c == 48)).reverse
theorem trZ_step (l : List UInt8) : trZ (l ++ [48]) = trZ l := by
  unfold trZ
  rw [List.reverse_append]
  rfl
theorem trZ_end (l : List UInt8) (c : UInt8) (h : c ≠ 48) : trZ (l ++ [c]) = l ++ [c] := by
  unfold trZ
  rw [List.reverse_append]
  have : (c == 48) = false := by rw [beq_eq_false_iff_ne]; exact h
  simp [List.dropWhile, this]
theorem trZ_zeros (l : List UInt8) : ∀ j, trZ (l ++ List.replicate j 48) = trZ l
  | 0 => by simp
  | j + 1 => by rw [List.replicate_succ', ← List.append_assoc, trZ_step, trZ_zeros l j]
/-- The exact digits as the reference lays them. -/
def exR (M : Nat) (E : Int) : List UInt8 :=
  if 0 ≤ E then dD (M * 2 ^ E.toNat) else
    if trZ ((exZ (-E).toNat (dD (M * 5 ^ (-E).toNat))).drop ((exZ (-E).toNat (dD (M * 5 ^ (-E).toNat))).length - (-E).toNat)) = [] then (exZ (-E).toNat (dD (M * 5 ^ (-E).toNat))).take ((exZ (-E).toNat (dD (M * 5 ^ (-E).toNat))).length - (-E).toNat)
    else (exZ (-E).toNat (dD (M * 5 ^ (-E).toNat))).take ((exZ (-E).toNat (dD (M * 5 ^ (-E).toNat))).length - (-E).toNat) ++ 46 :: trZ ((exZ (-E).toNat (dD (M * 5 ^ (-E).toNat))).drop ((exZ (-E).toNat (dD (M * 5 ^ (-E).toNat))).length - (-E).toNat))
theorem dD_ten {n : Nat} (h : 0 < n) : ∀ j, dD (n * 10 ^ j) = dD n ++ List.replicate j 48
  | 0 => by simp
  | j + 1 => by
    have hp : 0 < n * 10 ^ j := Nat.mul_pos h (Nat.pow_pos (by omega))
    have e : n * 10 ^ (j + 1) = n * 10 ^ j * 10 := by rw [Nat.pow_succ, Nat.mul_assoc]
    rw [e, dD_step (by omega), Nat.mul_div_cancel _ (by omega), Nat.mul_mod_left, dD_ten h j, List.replicate_succ', List.append_assoc]
    rfl
theorem dD_tail {n : Nat} (h : n % 10 ≠ 0) : ∃ (l : List UInt8) (c : UInt8), dD n = l ++ [c] ∧ c ≠ 48 := by
  have hc : UInt8.ofNat (48 + n % 10) ≠ 48 := by
    intro q
    have q2 := congrArg UInt8.toNat q
    rw [UInt8.toNat_ofNat'] at q2
    have : n % 10 < 10 := Nat.mod_lt _ (by omega)
    have e48 : (48 : UInt8).toNat = 48 := rfl
    omega
  by_cases q : n < 10
  · exact ⟨[], UInt8.ofNat (48 + n % 10), by rw [dD_small q, Nat.mod_eq_of_lt q]; rfl, hc⟩
  · exact ⟨dD (n / 10), UInt8.ofNat (48 + n % 10), dD_step q, hc⟩
theorem ex_same {M m' j : Nat} {E e' : Int} (hM : 0 < M) (h1 : M = m' * 2 ^ j) (h2 : e' = E + (j : Int)) (h3 : e' < 0 → m' % 2 = 1) : exR M E = exD m' e' := by
  have hm0 : 0 < m' := Nat.pos_of_ne_zero (fun q => by rw [q] at h1; omega)
  unfold exR exD
  by_cases c1 : 0 ≤ E
  · rw [if_pos c1, if_pos (by omega)]
    rw [h1, Nat.mul_assoc, ← Nat.pow_add]
    congr 3
    omega
  · rw [if_neg c1]
    obtain ⟨k, hk⟩ : ∃ k : Nat, (-E).toNat = k := ⟨_, rfl⟩
    rw [hk]
    by_cases c2 : 0 ≤ e'
    · rw [if_pos c2]
      obtain ⟨x, hx⟩ : ∃ x : Nat, e'.toNat = x := ⟨_, rfl⟩
      rw [hx]
      have e1 : M * 5 ^ k = m' * 2 ^ x * 10 ^ k := by
        rw [h1, show j = x + k by omega, Nat.pow_add, show (10 : Nat) = 2 * 5 by decide, Nat.mul_pow]
        ac_rfl
      have hp : 0 < m' * 2 ^ x := Nat.mul_pos hm0 (Nat.two_pow_pos x)
      rw [e1, dD_ten hp]
      have hl : 1 ≤ (dD (m' * 2 ^ x)).length := by
        have := dD_ne (m' * 2 ^ x)
        exact List.length_pos_iff.2 this
      generalize dD (m' * 2 ^ x) = X at *
      have hz : exZ k (X ++ List.replicate k 48) = X ++ List.replicate k 48 := by
        unfold exZ
        rw [show k + 1 - (X ++ List.replicate k (48 : UInt8)).length = 0 by rw [List.length_append, List.length_replicate]; omega]
        rfl
      rw [hz, show (X ++ List.replicate k (48 : UInt8)).length - k = X.length by rw [List.length_append, List.length_replicate]; omega, List.drop_left, List.take_left]
      have ht : trZ (List.replicate k 48) = [] := by
        have := trZ_zeros [] k
        rw [List.nil_append] at this
        rw [this]
        rfl
      rw [ht, if_pos rfl]
    · rw [if_neg c2]
      obtain ⟨k', hk'⟩ : ∃ k' : Nat, (-e').toNat = k' := ⟨_, rfl⟩
      rw [hk']
      have hkk : k = k' + j := by omega
      have hk0 : 0 < k' := by omega
      have e1 : M * 5 ^ k = m' * 5 ^ k' * 10 ^ j := by
        rw [h1, hkk, Nat.pow_add, show (10 : Nat) = 2 * 5 by decide, Nat.mul_pow]
        ac_rfl
      have hp : 0 < m' * 5 ^ k' := Nat.mul_pos hm0 (Nat.pow_pos (by omega))
      have hodd : (m' * 5 ^ k') % 2 = 1 := by
        rw [Nat.mul_mod, h3 (by omega), Nat.pow_mod, show 5 % 2 = 1 by decide, Nat.one_pow]
      rw [e1, dD_ten hp]
      obtain ⟨l, c, hl, hc⟩ := dD_tail (n := m' * 5 ^ k') (by omega)
      have hz : exZ k (dD (m' * 5 ^ k') ++ List.replicate j 48) = exZ k' (dD (m' * 5 ^ k')) ++ List.replicate j 48 := by
        unfold exZ
        rw [show k + 1 - (dD (m' * 5 ^ k') ++ List.replicate j (48 : UInt8)).length = k' + 1 - (dD (m' * 5 ^ k')).length by rw [List.length_append, List.length_replicate]; omega, List.append_assoc]
      obtain ⟨Z, hZ⟩ : ∃ Z, exZ k' (dD (m' * 5 ^ k')) = Z := ⟨_, rfl⟩
      have hZl : k' + 1 ≤ Z.length := by rw [← hZ]; exact exZ_len _ _
      obtain ⟨Y, hY⟩ : ∃ Y, Z = Y ++ [c] := by
        rw [← hZ, hl]
        unfold exZ
        exact ⟨_, by rw [← List.append_assoc]⟩
      rw [hz, hZ, show (Z ++ List.replicate j (48 : UInt8)).length - k = Z.length - k' by rw [List.length_append, List.length_replicate]; omega, List.drop_append_of_le_length (by omega), List.take_append_of_le_length (by omega), trZ_zeros]
      have hYl : Z.length = Y.length + 1 := by rw [hY, List.length_append]; rfl
      have hdr : Z.drop (Z.length - k') = Y.drop (Z.length - k') ++ [c] := by
        have q : ∀ n, n ≤ Y.length → Z.drop n = Y.drop n ++ [c] := fun n hn => by rw [hY, List.drop_append_of_le_length hn]
        exact q _ (by omega)
      rw [hdr, trZ_end _ _ hc, if_neg (by simp)]
end Go.Proofs.YtpdjpjkieafnbaaGreatDoor.Li
set_option linter.unusedVariables false
set_option linter.unusedSimpArgs false
namespace Go.Proofs.YtpdjpjkieafnbaaGreatDoor.Li
open Go.RowKit Lb Nr
theorem Nb.box (w : World) (a b c : Bool) (M : Nat) (E : Int) : ∃ W, W = w.alloc (.cells #[.bool a, .bool b, .bool c, .int .u64 (M : Int), .int .i64 E] 28) ∧ Nb W w.heap.size a b c M E ∧ Keep w W := ⟨_, rfl, Nb.new w a b c M E, (Keep.refl w).alloc _⟩
theorem five_words {M n : Nat} (hM : M < 9007199254740992) (hn : n ≤ 1074) : M * 5 ^ n < 4294967296 ^ 200 := by
  have h1 : 5 ^ n ≤ 4294967296 ^ 135 := by
    refine Nat.le_trans (Nat.pow_le_pow_left (show 5 ≤ 10 by omega) n) (ten_up n 135 (by omega))
  have h2 : M * 5 ^ n ≤ M * 4294967296 ^ 135 := Nat.mul_le_mul_left _ h1
  have h3 : M * 4294967296 ^ 135 < 18446744073709551616 * 4294967296 ^ 135 := Nat.mul_lt_mul_of_pos_right (by omega) (Nat.pow_pos (by omega))
  have h4 : (18446744073709551616 : Nat) * 4294967296 ^ 135 ≤ 4294967296 ^ 200 := by
    rw [show (18446744073709551616 : Nat) = 4294967296 ^ 2 by decide, ← Nat.pow_add]
    exact Nat.pow_le_pow_right (by omega) (by omega)
  exact Nat.lt_of_le_of_lt h2 (Nat.lt_of_lt_of_le h3 h4)
theorem two_words {M n : Nat} (hM : M < 9007199254740992) (hn : n ≤ 971) : M * 2 ^ n < 4294967296 ^ 200 := by
  have h1 : M * 2 ^ n ≤ M * 5 ^ n := Nat.mul_le_mul_left _ (Nat.pow_le_pow_left (by omega) n)
  exact Nat.lt_of_le_of_lt h1 (five_words hM (by omega))
theorem cat_zero (X : List UInt8) : ByteArray.mk #[48] ++ ByteArray.mk X.toArray = ⟨(48 :: X).toArray⟩ := catB [48] X
set_option maxRecDepth 100000 in
set_option maxHeartbeats 2000000 in
/-- The reference's Exact of a number that has digits. -/
theorem rExact_some (a : Bool) (M : Nat) (E : Int) (w : World) (hM : 0 < M) (hMb : M < 9007199254740992) (hE : -1074 ≤ E ∧ E ≤ 971) :
    Calls Tryz.prog 24 #[.agg #[.bool a, .bool false, .bool false, .int .u64 (M : Int), .int .i64 E]] w fun e w' => e = .returned (.string ⟨(sgN a ++ exR M E).toArray⟩) ∧ Keep w w' := by
  obtain ⟨W, hW, B1, kW⟩ := Nb.box w a false false M E
  have hSp := special_some a M E W hM
  obtain ⟨s, hs⟩ : ∃ s, sgN a = s := ⟨_, rfl⟩
  have ls : s.length ≤ 1 := by rw [← hs]; unfold sgN; split <;> decide
  rw [hs] at hSp ⊢
  obtain ⟨zs, ezs⟩ : ∃ z, (ByteArray.mk s.toArray).size = z := ⟨_, rfl⟩
  have szs : zs ≤ 1 := by rw [← ezs, sz_mk]; exact ls
  have hFr := fun wx => from_nv M wx (by omega)
  obtain ⟨R, hR⟩ : ∃ R, exR M E = R := ⟨_, rfl⟩
  rw [hR]
  have HR : Hid (exR M E = R) := hR
  clear hs hR
  have dlen : ∀ n, n < 4294967296 ^ 200 → (dD n).length ≤ 3000 := fun n hn => by
    obtain ⟨Z, hZ⟩ : ∃ Z, Z = 1999 := ⟨_, rfl⟩
    obtain ⟨y, hy⟩ : ∃ y, y = 200 := ⟨_, rfl⟩
    refine Nat.le_trans (dD_len Z n (Nat.lt_of_lt_of_le hn ?_)) (by omega)
    rw [show Z + 1 = 10 * y by omega, Nat.pow_mul, ← hy]
    exact Nat.pow_le_pow_left (by decide) _
  by_cases c0 : 0 ≤ E
  · obtain ⟨k, rfl⟩ : ∃ k : Nat, E = (k : Int) := ⟨E.toNat, by omega⟩
    have hUp := fun (v : Value) wx (h : Nv wx v M) => up_nv v M k 2 wx h (by rw [show (4294967296 : Nat) ^ 2 = 18446744073709551616 by decide]; omega) (by omega) (by omega)
    have hDc := fun (v : Value) wx (h : Nv wx v (M * 2 ^ k)) => decimal_nv v _ 200 wx h (two_words hMb (by omega)) (by omega)
    have lX := dlen _ (two_words (n := k) hMb (by omega))
    obtain ⟨X, hX⟩ : ∃ X, dD (M * 2 ^ k) = X := ⟨_, rfl⟩
    rw [hX] at hDc lX
    have hRX : R = X := by
      rw [← HR.out, ← hX]
      unfold exR
      rw [if_pos (by omega), Int.toNat_natCast]
    obtain ⟨zX, ezX⟩ : ∃ z, (ByteArray.mk X.toArray).size = z := ⟨_, rfl⟩
    have szX : zX ≤ 3000 := by rw [← ezX, sz_mk]; exact lX
    have hcat := catB s X
    have hge : decide ((0 : Int) ≤ (k : Int)) = true := decide_eq_true c0
    subst hRX
    clear HR hX dlen lX ls
    go_enter Tryz.func24, Tryz.ntmps24
    go_wp2_with fail
    rw [← hW]
    clear hW
    refine hSp.mono ?_
    rintro e w1 ⟨rfl, k1⟩
    obtain ⟨c0', c1, c2, c3, c4⟩ := (B1.keep k1).cells
    clear hSp
    go_wp2_with fail
    refine (hFr w1).mono ?_
    rintro e w2 ⟨v2, rfl, n2, k2⟩
    obtain ⟨c0', c1, c2, c3, c4⟩ := ((B1.keep k1).keep k2).cells
    clear hFr
    have hU1 := hUp v2 w2 n2
    go_wp2_with fail
    refine hU1.mono ?_
    rintro e w3 ⟨v3, rfl, n3, k3⟩
    have hD1 := hDc v3 w3 n3
    go_wp2_with fail
    refine hD1.mono ?_
    rintro e w4 ⟨rfl, k4⟩
    go_wp2_with fail
    go_ret
    exact ⟨rfl, (((kW.trans k1).trans k2).trans k3).trans k4⟩
  · obtain ⟨k, rfl⟩ : ∃ k : Nat, E = -(k : Int) := ⟨(-E).toNat, by omega⟩
    have hk1 : 1 ≤ k ∧ k ≤ 1074 := by omega
    have hDc := fun (v : Value) wx (h : Nv wx v (M * 5 ^ k)) => decimal_nv v _ 200 wx h (five_words hMb (by omega)) (by omega)
    have lX := dlen _ (five_words (n := k) hMb (by omega))
    have HMB : Hid (M < 9007199254740992) := hMb
    have hge : decide ((0 : Int) ≤ -(k : Int)) = false := decide_eq_false c0
    have hk0 : decide (k = 0) = false := decide_eq_false (by omega)
    have hk00 : ¬ k = 0 := by omega
    have wk : IntKind.i64.wrap (- -(k : Int)) = (k : Int) := by rw [IntWalk.i64_left, Int.neg_neg]; exact IntWalk.wrap64_in _ (by omega)
    have HX1 : Hid (exR M (-(k : Int)) = R) := HR
    clear HR dlen hE hM hMb c0
    go_enter Tryz.func24, Tryz.ntmps24
    go_wp2_with fail
    rw [← hW]
    clear hW
    refine hSp.mono ?_
    rintro e w1 ⟨rfl, k1⟩
    obtain ⟨c0', c1, c2, c3, c4⟩ := (B1.keep k1).cells
    clear hSp
    go_wp2_with fail
    refine (hFr w1).mono ?_
    rintro e w2 ⟨v2, rfl, n2, k2⟩
    obtain ⟨c0', c1, c2, c3, c4⟩ := ((B1.keep k1).keep k2).cells
    clear hFr
    have N2 : Hid (Nv w2 v2 M) := n2
    have K2 : Hid (Keep w w2) := (kW.trans k1).trans k2
    clear n2 kW k1 k2 B1
    go_wp2_with fail
    go_loopg [5, 7] (k) (fun g v5 v7 wx => ∃ i : Nat, i + g = k ∧ v7 = .int .i64 (i : Int) ∧ Nv wx v5 (M * 5 ^ i) ∧ Keep w2 wx)
    case atStart => exact ⟨0, by omega, rfl, by simpa using N2.out, Keep.refl _⟩
    case round =>
      obtain ⟨i, hig, rfl, hv, hkp⟩ := hrel
      clear c0' c1 c2 c3 c4 N2
      have HV : Hid (Nv wr _ (M * 5 ^ i)) := hv
      have KP : Hid (Keep w2 wr) := hkp
      clear hv hkp
      by_cases hil : i < k
      · have hile : (i : Int) < (k : Int) := by omega
        have hT := times_nv _ (M * 5 ^ i) 200 5 0 wr HV.out (five_words HMB.out (by omega)) (by omega) (by omega) (by omega)
        have e5 : 5 * (M * 5 ^ i) + 0 = M * 5 ^ (i + 1) := by rw [Nat.pow_succ, Nat.add_zero, Nat.mul_comm, Nat.mul_assoc]
        rw [e5] at hT
        clear e5 hDc
        replace hT : Hid (Calls Tryz.prog 47 #[_, .int .u32 5, .int .u32 0] wr _) := hT
        go_wp2_with (go_at_call 47; refine hT.out.mono ?_; rintro e w3 ⟨v', rfl, n3, k3⟩; have N3 : Hid (Nv w3 v' (M * 5 ^ (i + 1))) := n3; have K3 : Hid (Keep wr w3) := k3; clear n3 k3)
        go_roundg (gk - 1)
        case measure => omega
        case rel => exact ⟨i + 1, by omega, by simp, N3.out, KP.out.trans K3.out⟩
      · obtain rfl : i = k := by omega
        have hile : ¬ (i : Int) < (i : Int) := by omega
        have hD1 := hDc _ wr HV.out
        obtain ⟨D, hD⟩ : ∃ D, dD (M * 5 ^ i) = D := ⟨_, rfl⟩
        rw [hD] at hD1 lX
        obtain ⟨Z, hZ⟩ : ∃ Z, exZ i D = Z := ⟨_, rfl⟩
        have hZl : i + 1 ≤ Z.length := by rw [← hZ]; exact exZ_len _ _
        have hZu : Z.length ≤ 5000 := by
          rw [← hZ]
          unfold exZ
          rw [List.length_append, List.length_replicate]
          omega
        have HZ : Hid (exZ i D = Z) := hZ
        have HE : Hid (R = if trZ (Z.drop (Z.length - i)) = [] then Z.take (Z.length - i) else Z.take (Z.length - i) ++ 46 :: trZ (Z.drop (Z.length - i))) := by
          unfold Hid
          rw [← HX1.out]
          unfold exR
          rw [if_neg (by omega), Int.neg_neg, Int.toNat_natCast, hD, hZ]
        have HI : Hid (1 ≤ i ∧ i ≤ 1074 ∧ D.length ≤ 3000 ∧ i + 1 ≤ Z.length ∧ Z.length ≤ 5000) := ⟨hk1.1, hk1.2, lX, hZl, hZu⟩
        clear hDc HX1 hD hZ HV hZl hZu hig lX hil
        go_wp2_with fail
        refine hD1.mono ?_
        rintro e w3 ⟨rfl, k3⟩
        have K3 : Hid (Keep w w3) := (K2.out.trans KP.out).trans k3
        clear hD1 k3 KP K2
        go_wp2_with fail
        go_loopg [8] (i + 1 - D.length) (fun g v8 wx => ∃ (n : Nat) (Y : List UInt8), n + g = i + 1 - D.length ∧ v8 = .string ⟨Y.toArray⟩ ∧ Hid (Y = List.replicate n 48 ++ D) ∧ w3 = wx)
        case atStart => exact ⟨0, D, by omega, rfl, rfl, rfl⟩
        case round =>
          obtain ⟨n, Y, hng, rfl, hY, rfl⟩ := hrel
          have hYl : Y.length = n + D.length := by rw [hY.out, List.length_append, List.length_replicate]
          have ezY : (ByteArray.mk Y.toArray).size = n + D.length := by rw [sz_mk, hYl]
          obtain ⟨m, hm⟩ : ∃ m, n + D.length = m := ⟨_, rfl⟩
          rw [hm] at ezY hYl
          have hI := HI.out
          by_cases hle : m ≤ i
          · have q1 : decide ((m : Int) ≤ (i : Int)) = true := decide_eq_true (by omega)
            have q1' : decide (m ≤ i) = true := decide_eq_true (by omega)
            have hc := cat_zero Y
            have HN : Hid (n + 1 + (gk - 1) = i + 1 - D.length ∧ gk - 1 < gk ∧ m ≤ 5000) := ⟨by omega, by omega, by omega⟩
            have hm5 : m ≤ 5000 := by omega
            have HY2 : Hid (48 :: Y = List.replicate (n + 1) 48 ++ D) := by unfold Hid; rw [hY.out]; rfl
            obtain ⟨Y2, hY2⟩ : ∃ Y2, 48 :: Y = Y2 := ⟨_, rfl⟩
            rw [hY2] at hc HY2
            clear hY hYl hm hng hI hle hY2
            go_wp2_with fail
            go_roundg (gk - 1)
            case measure => exact HN.out.2.1
            case rel => exact ⟨n + 1, Y2, HN.out.1, rfl, HY2.out, rfl⟩
          · have q1 : decide ((m : Int) ≤ (i : Int)) = false := decide_eq_false (by omega)
            have q1' : decide (m ≤ i) = false := decide_eq_false (by omega)
            have hYZ : Y = Z := by
              rw [hY.out, ← HZ.out]
              unfold exZ
              rw [show n = i + 1 - D.length by omega]
            rw [hYZ] at ezY hYl ⊢
            clear hY hm hng hle hYZ
            obtain ⟨t, ht⟩ : ∃ t, m = t + i := ⟨m - i, by omega⟩
            have htt : Z.length - i = t := by omega
            have w5 : IntKind.i64.wrap ((m : Int) - (i : Int)) = (t : Int) := by rw [IntWalk.i64_left, show (m : Int) - (i : Int) = (t : Int) by omega]; exact IntWalk.wrap64_in _ (by omega)
            have hS1 := fun wx => run_upto Z t (by omega) wx
            have hS2 := fun wx => run_from Z t (by omega) wx
            have hE2 := HE.out
            rw [htt] at hE2
            obtain ⟨wh, hwh⟩ : ∃ wh, Z.take t = wh := ⟨_, rfl⟩
            obtain ⟨pt, hpt⟩ : ∃ pt, Z.drop t = pt := ⟨_, rfl⟩
            rw [hwh] at hS1 hE2
            rw [hpt] at hS2 hE2
            have lwh : wh.length ≤ 5000 := by rw [← hwh, List.length_take]; omega
            have lpt : pt.length ≤ 5000 := by rw [← hpt, List.length_drop]; omega
            have HE2 : Hid (R = if trZ pt = [] then wh else wh ++ 46 :: trZ pt) := hE2
            have HLN : Hid (wh.length ≤ 5000 ∧ pt.length ≤ 5000) := ⟨lwh, lpt⟩
            clear hE2 HE HZ hI HI hwh hpt htt ht lwh lpt hYl
            go_wp2_with fail
            go_loopg [10] (pt.length) (fun g v10 wx => ∃ (Q : List UInt8), v10 = .string ⟨Q.toArray⟩ ∧ Hid (Q.length = g ∧ g ≤ 5000 ∧ trZ Q = trZ pt) ∧ w3 = wx)
            case atStart => exact ⟨pt, rfl, ⟨rfl, HLN.out.2, rfl⟩, rfl⟩
            case round =>
              obtain ⟨Q, rfl, hQ, rfl⟩ := hrel
              clear hS1 hS2 w5 q1 q1' ezY
              have fin : ∀ (hT : trZ Q = Q), Hid (R = if Q = [] then wh else wh ++ 46 :: Q) := fun hT => by
                unfold Hid
                rw [HE2.out, ← hQ.out.2.2, hT]
              obtain ⟨zw, ezw⟩ : ∃ z, (ByteArray.mk wh.toArray).size = z := ⟨_, rfl⟩
              have szw : zw ≤ 5000 := by rw [← ezw, sz_mk]; exact HLN.out.1
              have cw := catB s wh
              obtain ⟨F1, hF1⟩ : ∃ F, s ++ wh = F := ⟨_, rfl⟩
              rw [hF1] at cw
              obtain ⟨zF, ezF⟩ : ∃ z, (ByteArray.mk F1.toArray).size = z := ⟨_, rfl⟩
              have szF : zF ≤ 5001 := by rw [← ezF, sz_mk, ← hF1, List.length_append]; have := HLN.out; omega
              have HF1 : Hid (s ++ wh = F1) := hF1
              clear hF1
              by_cases hq0 : Q = []
              · have f := fin (by rw [hq0]; rfl)
                subst hq0
                have f2 : Hid (R = wh) := by unfold Hid; rw [f.out, if_pos rfl]
                clear fin f hQ
                go_wp2_with fail
                go_ret
                exact ⟨by rw [f2.out, HF1.out]; rfl, K3.out⟩
              · obtain ⟨Q', c, hQc⟩ : ∃ Q' c, Q = Q' ++ [c] := ⟨Q.dropLast, Q.getLast hq0, (List.dropLast_concat_getLast hq0).symm⟩
                have hQl : Q.length = Q'.length + 1 := by rw [hQc, List.length_append]; rfl
                have ezQ : (ByteArray.mk Q.toArray).size = Q'.length + 1 := by rw [sz_mk, hQl]
                have hix := run_ix Q Q'.length (by omega) w3
                have hgd : Q.getD Q'.length 0 = c := by rw [hQc]; simp
                rw [hgd] at hix
                have hbd : Q'.length ≤ 5000 := by have := hQ.out; omega
                obtain ⟨m2, hm2⟩ : ∃ m2, Q'.length = m2 := ⟨_, rfl⟩
                rw [hm2] at ezQ hix hbd hQl
                have w6 : IntKind.i64.wrap (((m2 + 1 : Nat) : Int) - 1) = (m2 : Int) := by rw [IntWalk.i64_left, show ((m2 + 1 : Nat) : Int) - 1 = (m2 : Int) by omega]; exact IntWalk.wrap64_in _ (by omega)
                have w7 : IntKind.i64.wrap ((m2 : Int) + 1 - 1) = (m2 : Int) := by rw [IntWalk.i64_left, show (m2 : Int) + 1 - 1 = (m2 : Int) by omega]; exact IntWalk.wrap64_in _ (by omega)
                have q2 : decide ((0 : Int) < ((m2 + 1 : Nat) : Int)) = true := decide_eq_true (by omega)
                by_cases hc : c = 48
                · have hup := run_upto Q m2 (by omega) w3
                  have htk : Q.take m2 = Q' := by rw [hQc, ← hm2]; simp
                  rw [htk] at hup
                  have hc8 : (((c.toNat : Nat) : Int) == 48) = true := by rw [hc]; rfl
                  have HM2 : Hid (m2 < gk ∧ Q'.length = m2 ∧ m2 ≤ 5000 ∧ trZ Q' = trZ pt) := by
                    have h9 := hQ.out
                    refine ⟨by omega, hm2, hbd, ?_⟩
                    rw [← h9.2.2, hQc, hc, trZ_step]
                  clear fin hQ hQc hgd htk hQl hm2 hq0 hc
                  go_wp2_with fail
                  go_roundg m2
                  case measure => exact HM2.out.1
                  case rel => exact ⟨Q', rfl, ⟨HM2.out.2.1, HM2.out.2.2.1, HM2.out.2.2.2⟩, rfl⟩
                · have hc8 : (((c.toNat : Nat) : Int) == 48) = false := by
                    rw [beq_eq_false_iff_ne]
                    intro h9
                    exact hc (UInt8.toNat_inj.1 (by show c.toNat = 48; omega))
                  have f := fin (by rw [hQc]; exact trZ_end _ _ hc)
                  have f2 : Hid (R = wh ++ 46 :: Q) := by unfold Hid; rw [f.out, if_neg hq0]
                  have hne : Q.isEmpty = false := by
                    cases hq : Q with
                    | nil => exact absurd hq hq0
                    | cons x X => rfl
                  have c2 : ByteArray.mk F1.toArray ++ ByteArray.mk #[46] = ⟨(F1 ++ [46]).toArray⟩ := catB F1 [46]
                  have c3 := catB (F1 ++ [46]) Q
                  have szG : (ByteArray.mk (F1 ++ [46]).toArray).size = zF + 1 := by rw [sz_mk, List.length_append, ← sz_mk, ezF]; rfl
                  obtain ⟨G, hG⟩ : ∃ G, F1 ++ [46] = G := ⟨_, rfl⟩
                  rw [hG] at c2 c3 szG
                  obtain ⟨G2, hG2⟩ : ∃ G2, G ++ Q = G2 := ⟨_, rfl⟩
                  rw [hG2] at c3
                  have HG : Hid (s ++ R = G2) := by
                    unfold Hid
                    rw [f2.out, ← hG2, ← hG, ← HF1.out]
                    simp
                  clear fin f f2 hQ hQc hgd hQl hm2 hq0 hc hG hG2
                  go_wp2_with fail
                  go_ret
                  exact ⟨by rw [HG.out]; rfl, K3.out⟩
end Go.Proofs.YtpdjpjkieafnbaaGreatDoor.Li
set_option linter.unusedVariables false
set_option linter.unusedSimpArgs false
namespace Go.Proofs.YtpdjpjkieafnbaaGreatDoor.Li
open Go.RowKit Lb Nr
/-- A number as a quotient, and the same moved by the program. -/
theorem cross_amt {N D M : Nat} {E T : Int} (h : N * 2 ^ (-E).toNat = M * 2 ^ E.toNat * D) (k : Int) :
    N * 10 ^ (-k).toNat * sDen E T * 10 ^ (k + T).toNat = 4 * M * sNum E T * (D * 10 ^ k.toNat) * 10 ^ (-(k + T)).toNat := by
  have h2 : N * 2 ^ (-(E - 2)).toNat = 4 * M * 2 ^ (E - 2).toNat * D := by
    apply Nat.eq_of_mul_eq_mul_right (Nat.two_pow_pos (-E).toNat)
    have e : 2 ^ (-(E - 2)).toNat * 2 ^ E.toNat = 4 * (2 ^ (E - 2).toNat * 2 ^ (-E).toNat) := by
      rw [show (4 : Nat) = 2 ^ 2 by decide, ← Nat.pow_add, ← Nat.pow_add, ← Nat.pow_add]
      congr 1
      omega
    calc N * 2 ^ (-(E - 2)).toNat * 2 ^ (-E).toNat = N * 2 ^ (-E).toNat * 2 ^ (-(E - 2)).toNat := by ac_rfl
      _ = M * 2 ^ E.toNat * D * 2 ^ (-(E - 2)).toNat := by rw [h]
      _ = M * D * (2 ^ (-(E - 2)).toNat * 2 ^ E.toNat) := by ac_rfl
      _ = M * D * (4 * (2 ^ (E - 2).toNat * 2 ^ (-E).toNat)) := by rw [e]
      _ = 4 * M * 2 ^ (E - 2).toNat * D * 2 ^ (-E).toNat := by ac_rfl
  have e10 : 10 ^ (-k).toNat * 10 ^ (-T).toNat * 10 ^ (k + T).toNat = 10 ^ T.toNat * 10 ^ k.toNat * 10 ^ (-(k + T)).toNat := by
    rw [← Nat.pow_add, ← Nat.pow_add, ← Nat.pow_add, ← Nat.pow_add]
    congr 1
    omega
  unfold sNum sDen
  calc N * 10 ^ (-k).toNat * (10 ^ (-T).toNat * 2 ^ (-(E - 2)).toNat) * 10 ^ (k + T).toNat = N * 2 ^ (-(E - 2)).toNat * (10 ^ (-k).toNat * 10 ^ (-T).toNat * 10 ^ (k + T).toNat) := by ac_rfl
    _ = 4 * M * 2 ^ (E - 2).toNat * D * (10 ^ T.toNat * 10 ^ k.toNat * 10 ^ (-(k + T)).toNat) := by rw [h2, e10]
    _ = 4 * M * (10 ^ T.toNat * 2 ^ (E - 2).toNat) * (D * 10 ^ k.toNat) * 10 ^ (-(k + T)).toNat := by ac_rfl
def aA (N : Nat) (z : Int) : Nat := N * 10 ^ (-z).toNat
def bB (D : Nat) (z : Int) : Nat := D * 10 ^ z.toNat
/-- What the reference's Decimal stands on, of whatever format. -/
structure DcH (N D V S lo hi d K : Nat) (T : Int) : Prop where
  n0 : 0 < N
  d0 : 0 < D
  s0 : 0 < S
  cr : ∀ k : Int, aA N k * S * 10 ^ (k + T).toNat = V * bB D k * 10 ^ (-(k + T)).toNat
  vl : 99000000000000000 * S ≤ V
  vh : V < 2100000000000000000 * S
  tr : -370 ≤ T ∧ T ≤ 370
  e0 : 0 < d
  el : d % 10 ≠ 0
  eb : d < 100000000000000000
  kb : K ≤ 18
  dk : ∀ P, 10 ^ (P - 1) * S ≤ V → V < 10 ^ P * S → 17 ≤ P ∧ P ≤ 19 ∧ ∃ j b : Nat, b = V / (S * 10 ^ j) ∧ 1 ≤ j ∧ P ≤ j + 17 ∧ j + 1 ≤ P ∧
      (∀ i, j < i → i + 1 ≤ P → ∀ c, rIn lo hi c i = false) ∧ (rIn lo hi b j = true ∨ rIn lo hi (b + 1) j = true) ∧
      (((if rUp lo hi (S * 10 ^ j) b (V % (S * 10 ^ j)) j = true then b + 1 else b) = d ∧ j = K) ∨ ((if rUp lo hi (S * 10 ^ j) b (V % (S * 10 ^ j)) j = true then b + 1 else b) = 10 ∧ d = 1 ∧ K = j + 1))
theorem bB_pos {D : Nat} (h : 0 < D) (z : Int) : 0 < bB D z := Nat.mul_pos h (Nat.pow_pos (by omega))
theorem DcH.low {N D V S lo hi d K : Nat} {T : Int} (h : DcH N D V S lo hi d K T) {p : Int} (hp : p + T ≤ 0) : bB D p ≤ aA N p := by
  have c := h.cr p
  rw [show (p + T).toNat = 0 by omega, Nat.pow_zero, Nat.mul_one] at c
  have h1 : S * bB D p ≤ V * bB D p := Nat.mul_le_mul_right _ (by have := h.vl; omega)
  have h2 : V * bB D p ≤ V * bB D p * 10 ^ (-(p + T)).toNat := Nat.le_mul_of_pos_right _ (Nat.pow_pos (by omega))
  rw [← c] at h2
  have h3 := Nat.le_trans h1 h2
  rw [Nat.mul_comm] at h3
  exact Nat.le_of_mul_le_mul_right h3 h.s0
theorem DcH.high {N D V S lo hi d K : Nat} {T : Int} (h : DcH N D V S lo hi d K T) {p : Int} (hp : 19 ≤ p + T) : aA N p < bB D p := by
  have c := h.cr p
  rw [show (-(p + T)).toNat = 0 by omega, Nat.pow_zero, Nat.mul_one] at c
  have e19 : (10 : Nat) ^ 19 = 10000000000000000000 := by decide
  have h0 : 10 ^ 19 ≤ 10 ^ (p + T).toNat := Nat.pow_le_pow_right (by omega) (by omega)
  have h1 : V < S * 10 ^ (p + T).toNat := by
    refine Nat.lt_of_lt_of_le ?_ (Nat.mul_le_mul_left S h0)
    rw [e19]
    have := h.vh
    have := h.s0
    omega
  have h2 : V * bB D p < S * 10 ^ (p + T).toNat * bB D p := Nat.mul_lt_mul_of_pos_right h1 (bB_pos h.d0 p)
  rw [← c, Nat.mul_assoc, Nat.mul_comm (S * _) (bB D p)] at h2
  exact Nat.lt_of_mul_lt_mul_right h2
theorem DcH.at {N D V S lo hi d K : Nat} {T : Int} (h : DcH N D V S lo hi d K T) {k : Int} {i : Nat} (hi : k + T = (i : Int)) : aA N k * (S * 10 ^ i) = V * bB D k := by
  have c := h.cr k
  rw [show (-(k + T)).toNat = 0 by omega, Nat.pow_zero, Nat.mul_one, show (k + T).toNat = i by omega, Nat.mul_assoc] at c
  exact c
theorem DcH.found {N D V S lo hi d K : Nat} {T : Int} (h : DcH N D V S lo hi d K T) {p : Int} (h1 : aA N p < bB D p) (h2 : bB D (p - 1) ≤ aA N (p - 1)) :
    ∃ P : Nat, p + T = (P : Int) ∧ 1 ≤ P ∧ 10 ^ (P - 1) * S ≤ V ∧ V < 10 ^ P * S := by
  have hp : 0 < p + T := by
    rcases Int.lt_or_le 0 (p + T) with q | q
    · exact q
    · have := h.low q
      omega
  obtain ⟨P, hP⟩ : ∃ P : Nat, p + T = (P : Int) := ⟨(p + T).toNat, by omega⟩
  have a1 := h.at hP
  have a2 := h.at (k := p - 1) (i := P - 1) (by omega)
  refine ⟨P, hP, by omega, ?_, ?_⟩
  · have q : bB D (p - 1) * (S * 10 ^ (P - 1)) ≤ V * bB D (p - 1) := by
      rw [← a2]
      exact Nat.mul_le_mul_right _ h2
    rw [Nat.mul_comm V] at q
    have := Nat.le_of_mul_le_mul_left q (bB_pos h.d0 _)
    rw [Nat.mul_comm]
    exact this
  · have q : V * bB D p < bB D p * (S * 10 ^ P) := by
      rw [← a1]
      exact Nat.mul_lt_mul_of_pos_right h1 (Nat.mul_pos h.s0 (Nat.pow_pos (by omega)))
    rw [Nat.mul_comm V] at q
    have := Nat.lt_of_mul_lt_mul_left q
    rw [Nat.mul_comm]
    exact this
theorem div_cross {A B V X : Nat} (hB : 0 < B) (hX : 0 < X) (h : A * X = V * B) : A / B = V / X ∧ (A % B) * X = (V % X) * B := by
  constructor
  · rw [← Nat.mul_div_mul_right A B hX, h, Nat.mul_comm B X, Nat.mul_div_mul_right _ _ hB]
  · rw [← Nat.mul_mod_mul_right, h, Nat.mul_comm B X, Nat.mul_mod_mul_right]
theorem cmp_cross {r B r' X : Nat} (hB : 0 < B) (hX : 0 < X) (h : r * X = r' * B) : cmpN (r * 2 ^ 1) B = cmpN (2 * r') X := by
  have h2 : r * 2 ^ 1 * X = 2 * r' * B := by
    rw [Nat.pow_one, Nat.mul_comm r 2, Nat.mul_assoc, h, Nat.mul_assoc]
  have l1 : r * 2 ^ 1 < B ↔ 2 * r' < X := by
    constructor
    · intro q
      have := Nat.mul_lt_mul_of_pos_right q hX
      rw [h2, Nat.mul_comm B X] at this
      exact Nat.lt_of_mul_lt_mul_right this
    · intro q
      have := Nat.mul_lt_mul_of_pos_right q hB
      rw [← h2, Nat.mul_comm X B] at this
      exact Nat.lt_of_mul_lt_mul_right this
  have l2 : B < r * 2 ^ 1 ↔ X < 2 * r' := by
    constructor
    · intro q
      have := Nat.mul_lt_mul_of_pos_right q hX
      rw [h2, Nat.mul_comm B X] at this
      exact Nat.lt_of_mul_lt_mul_right this
    · intro q
      have := Nat.mul_lt_mul_of_pos_right q hB
      rw [← h2, Nat.mul_comm X B] at this
      exact Nat.lt_of_mul_lt_mul_right this
  unfold cmpN
  simp only [l1, l2]
/-- The step at which so many digits are asked. -/
theorem DcH.step {N D V S lo hi d K : Nat} {T : Int} (h : DcH N D V S lo hi d K T) {p : Int} {P n i : Nat} (hP : p + T = (P : Int)) (h1 : 10 ^ (P - 1) * S ≤ V) (h2 : V < 10 ^ P * S) (hn : 1 ≤ n) (hi : n + i = P) (hn17 : n ≤ 17) :
    aA N (p - n) / bB D (p - n) = V / (S * 10 ^ i) ∧ 0 < V / (S * 10 ^ i) ∧ V / (S * 10 ^ i) < 100000000000000000 ∧ cmpN (aA N (p - n) % bB D (p - n) * 2 ^ 1) (bB D (p - n)) = cmpN (2 * (V % (S * 10 ^ i))) (S * 10 ^ i) ∧ aA N (p - n) < 144115188075855872 * bB D (p - n) := by
  have hX : 0 < S * 10 ^ i := Nat.mul_pos h.s0 (Nat.pow_pos (by omega))
  have ha := h.at (k := p - n) (i := i) (by omega)
  obtain ⟨d1, d2⟩ := div_cross (bB_pos h.d0 _) hX ha
  have hq : V / (S * 10 ^ i) < 100000000000000000 := by
    rw [Nat.div_lt_iff_lt_mul hX]
    refine Nat.lt_of_lt_of_le h2 ?_
    rw [← hi, Nat.pow_add]
    have e17 : (10 : Nat) ^ 17 = 100000000000000000 := by decide
    have : 10 ^ n ≤ 100000000000000000 := by rw [← e17]; exact Nat.pow_le_pow_right (by omega) hn17
    calc 10 ^ n * 10 ^ i * S ≤ 100000000000000000 * 10 ^ i * S := Nat.mul_le_mul_right _ (Nat.mul_le_mul_right _ this)
      _ = 100000000000000000 * (S * 10 ^ i) := by ac_rfl
  refine ⟨d1, ?_, hq, cmp_cross (bB_pos h.d0 _) hX d2, ?_⟩
  · apply Nat.div_pos _ hX
    refine Nat.le_trans ?_ h1
    rw [Nat.mul_comm S]
    exact Nat.mul_le_mul_right _ (Nat.pow_le_pow_right (by omega) (by omega))
  · rw [← d1] at hq
    rw [Nat.div_lt_iff_lt_mul (bB_pos h.d0 _)] at hq
    have := bB_pos h.d0 (p - n)
    omega
theorem rUp_cmp (lo hi X b r j : Nat) : rUp lo hi X b r j = (!(rIn lo hi b j) || (rIn lo hi (b + 1) j && (decide (0 < cmpN (2 * r) X) || (decide (cmpN (2 * r) X = 0) && decide (b % 2 = 1))))) := by
  unfold rUp
  have e1 : decide (X < 2 * r) = decide (0 < cmpN (2 * r) X) := by
    unfold cmpN
    by_cases q : 2 * r < X
    · rw [if_pos q, decide_eq_false (by omega), decide_eq_false (by omega)]
    · rw [if_neg q]
      by_cases q2 : X < 2 * r
      · rw [if_pos q2, decide_eq_true q2, decide_eq_true (by omega)]
      · rw [if_neg q2, decide_eq_false q2, decide_eq_false (by omega)]
  have e2 : decide (2 * r = X) = decide (cmpN (2 * r) X = 0) := by
    unfold cmpN
    by_cases q : 2 * r < X
    · rw [if_pos q, decide_eq_false (by omega), decide_eq_false (by omega)]
    · rw [if_neg q]
      by_cases q2 : X < 2 * r
      · rw [if_pos q2, decide_eq_false (by omega), decide_eq_false (by omega)]
      · rw [if_neg q2, decide_eq_true (by omega), decide_eq_true rfl]
  rw [e1, e2]
theorem words_lt {N L : Nat} (h : N * 10 ^ L < 4294967296 ^ 200) (n : Nat) (hn : n ≤ L) : N * 10 ^ n < 4294967296 ^ 200 := Nat.lt_of_le_of_lt (Nat.mul_le_mul_left _ (Nat.pow_le_pow_right (by omega) hn)) h
theorem rat_cross {a b : Nat} (hb : 0 < b) : RN a b * b = a * RD a b := by
  unfold RN RD
  rw [if_neg (by omega), if_neg (by omega)]
  obtain ⟨x, hx⟩ := Nat.gcd_dvd_left a b
  obtain ⟨y, hy⟩ := Nat.gcd_dvd_right a b
  have hg : 0 < Nat.gcd a b := Nat.gcd_pos_of_pos_right _ hb
  generalize Nat.gcd a b = g at *
  subst hx hy
  rw [Nat.mul_div_cancel_left _ hg, Nat.mul_div_cancel_left _ hg]
  ac_rfl
end Go.Proofs.YtpdjpjkieafnbaaGreatDoor.Li
set_option linter.unusedVariables false
set_option linter.unusedSimpArgs false
namespace Go.Proofs.YtpdjpjkieafnbaaGreatDoor.Li
open Go.RowKit Lb Nr
theorem dD_end {d : Nat} (hd : d % 10 ≠ 0) : ∃ (l : List UInt8) (c : UInt8), dD d = l ++ [c] ∧ ((c.toNat : Int) == 48) = false := by
  have hc : ((UInt8.ofNat (48 + d % 10)).toNat : Int) = 48 + (d % 10 : Nat) := by
    rw [UInt8.toNat_ofNat']
    have : d % 10 < 10 := Nat.mod_lt _ (by omega)
    omega
  by_cases q : d < 10
  · refine ⟨[], UInt8.ofNat (48 + d % 10), ?_, ?_⟩
    · rw [dD_small q, Nat.mod_eq_of_lt q]
      rfl
    · rw [hc, beq_eq_false_iff_ne]
      omega
  · refine ⟨dD (d / 10), UInt8.ofNat (48 + d % 10), dD_step q, ?_⟩
    rw [hc, beq_eq_false_iff_ne]
    omega
theorem sz_diff {A B : Nat} (h : A < 144115188075855872 * B) : (sz A : Int) - (sz B : Int) ≤ 64 := by
  have h1 : A < 2 ^ (57 + sz B) := by
    refine Nat.lt_of_lt_of_le h ?_
    rw [Nat.pow_add]
    exact Nat.mul_le_mul (by decide) (Nat.le_of_lt (sz_lt B))
  have := sz_le h1
  omega
set_option maxRecDepth 100000 in
set_option maxHeartbeats 4000000 in
/-- The reference's Decimal, of whatever format. -/
theorem Decimal_gen (a b c : Bool) (M : Nat) (E x y u T : Int) (lo hi d K N D V S L : Nat) (w : World) (H : DcH N D V S lo hi d K T) (hL : 800 ≤ L) (hNb : N * 10 ^ L < 4294967296 ^ 200) (hDb : D * 10 ^ L < 4294967296 ^ 200)
    (hR : ∀ wx, Calls Tryz.prog 102 #[.agg #[.bool a, .bool b, .bool c, .int .u64 (M : Int), .int .i64 E]] wx fun e w' => ∃ v1 v2, e = .returned (.tuple #[v1, v2]) ∧ Nv w' v1 N ∧ Nv w' v2 D ∧ Keep wx w')
    (hN : NearBk (.agg #[.int .i64 x, .int .i64 y, .int .i64 u]) M E T lo hi) :
    Calls Tryz.prog 59 #[.agg #[.bool a, .bool b, .bool c, .int .u64 (M : Int), .int .i64 E], .agg #[.int .i64 x, .int .i64 y, .int .i64 u]] w fun e w' => e = .returned (.tuple #[.string ⟨(dD d).toArray⟩, .int .i64 ((K : Int) - T)]) ∧ Keep w w' := by
  obtain ⟨W, hW, B1, B2, kW⟩ := boxes w a b c M E x y u
  have hBk := fun (q : Nat) (z : Int) (h0 : 0 < q) (h1 : q < 18446744073709551616) (h2 : 0 ≤ z + T) (h3 : -400 ≤ z ∧ z ≤ 400) wx => back_some q z a b c M E x y u T lo hi wx h0 h1 h2 h3 hN
  have hS := fun (v1 v2 : Value) (z : Int) wx (h1 : Nv wx v1 N) (h2 : Nv wx v2 D) (hz : -400 ≤ z ∧ z ≤ 400) => scaled_nvT v1 v2 N D 200 z wx h1 h2 (by omega) (words_lt hNb _ (by omega)) (words_lt hDb _ (by omega)) (by omega)
  have bA : ∀ z : Int, -400 ≤ z ∧ z ≤ 400 → aA N z < 4294967296 ^ 200 := fun z hz => words_lt hNb _ (by omega)
  have bBb : ∀ z : Int, -400 ≤ z ∧ z ≤ 400 → bB D z < 4294967296 ^ 200 := fun z hz => words_lt hDb _ (by omega)
  have hC := fun (v1 v2 : Value) (z : Int) wx (h1 : Nv wx v1 (aA N z)) (h2 : Nv wx v2 (bB D z)) (hz : -400 ≤ z ∧ z ≤ 400) => cmp_nv v1 v2 _ _ 200 wx h1 h2 (bA z hz) (bBb z hz) (by omega)
  have HH : Hid (DcH N D V S lo hi d K T) := H
  have htr := H.tr
  have hkb := H.kb
  clear H hN hNb hDb
  change ∀ (v1 v2 : Value) (z : Int) wx (h1 : Nv wx v1 N) (h2 : Nv wx v2 D) (hz : -400 ≤ z ∧ z ≤ 400), Calls Tryz.prog 103 #[v1, v2, .int .i64 z] wx fun e w' => ∃ v1' v2', e = .returned (.tuple #[v1', v2']) ∧ Nv w' v1' (aA N z) ∧ Nv w' v2' (bB D z) ∧ Keep wx w' at hS
  go_enter Tryz.func59, Tryz.ntmps59
  go_wp2_with fail
  rw [← hW]
  clear hW
  refine (hR _).mono ?_
  rintro e w1 ⟨v1, v2, rfl, n1, n2, k1⟩
  have B1' : Hid (Nb w1 w.heap.size a b c M E) := B1.keep k1
  have B2' : Hid (Fb w1 (w.heap.size + 1) x y u) := B2.keep k1
  have KW : Hid (Keep w w1) := kW.trans k1
  have N1 : Hid (Nv w1 v1 N) := n1
  have N2 : Hid (Nv w1 v2 D) := n2
  clear B1 B2 kW k1 n1 n2 hR
  go_wp2_with fail
  go_loopg [8] ((21 - T).toNat) (fun gg s8 wx => ∃ p : Int, gg = (22 - T - p).toNat ∧ s8 = .int .i64 p ∧ 1 ≤ p ∧ (p = 1 ∨ p + T ≤ 19) ∧ Keep w1 wx)
  case atStart => exact ⟨1, by omega, rfl, by omega, .inl rfl, Keep.refl _⟩
  case round =>
    obtain ⟨p, hg, rfl, hp1, hp2, kr⟩ := hrel
    have hS1 := hS _ _ p wr (N1.out.keep kr) (N2.out.keep kr) (by omega)
    go_wp2_with fail
    refine hS1.mono ?_
    rintro e w2 ⟨va, vb, rfl, na, nb, k2⟩
    have hC1 := hC _ _ p w2 na nb (by omega)
    clear hS1
    go_wp2_with fail
    refine hC1.mono ?_
    rintro e w3 ⟨rfl, k3⟩
    have hlt : decide (cmpN (aA N p) (bB D p) < 0) = decide (aA N p < bB D p) := by
      unfold cmpN
      by_cases q : aA N p < bB D p
      · rw [if_pos q, decide_eq_true q]
        rfl
      · rw [if_neg q, decide_eq_false q]
        split <;> rfl
    clear hC1
    have K3 : Hid (Keep w1 w3) := (kr.trans k2).trans k3
    clear kr k2 k3 na nb
    by_cases q : aA N p < bB D p
    · have QQ : Hid (aA N p < bB D p) := q
      rw [decide_eq_true q] at hlt
      have hpb : -400 ≤ p ∧ p ≤ 400 := by omega
      have hpT : 0 < p + T := by
        rcases Int.lt_or_le 0 (p + T) with q1 | q1
        · exact q1
        · have := HH.out.low q1
          omega
      clear q hg hp1 hp2
      go_wp2_with fail
      go_loopg [8] ((p + T).toNat) (fun gg s8 wx => ∃ p2 : Int, gg = (p2 + T).toNat ∧ s8 = .int .i64 p2 ∧ -390 ≤ p2 ∧ p2 ≤ 400 ∧ 0 < p2 + T ∧ aA N p2 < bB D p2 ∧ Keep w1 wx)
      case atStart => exact ⟨p, rfl, rfl, by omega, by omega, hpT, QQ.out, K3.out⟩
      case round =>
        obtain ⟨p2, hg, rfl, hp3, hp4, hpT2, hlt2, kr⟩ := hrel
        clear QQ hpT hpb hlt
        have HLT : Hid (aA N p2 < bB D p2) := hlt2
        obtain ⟨p3, hp5⟩ : ∃ p3, p2 - 1 = p3 := ⟨_, rfl⟩
        have x1 : IntKind.i64.wrap (p2 - 1) = p3 := by rw [IntWalk.i64_left, hp5]; exact IntWalk.wrap64_in _ (by omega)
        have hS1 := hS _ _ p3 wr (N1.out.keep kr) (N2.out.keep kr) (by omega)
        have HP5 : Hid (p2 - 1 = p3) := hp5
        clear hlt2 hp5
        go_wp2_with fail
        refine hS1.mono ?_
        rintro e w5 ⟨va, vb, rfl, na, nb, k2⟩
        have hC1 := hC _ _ p3 w5 na nb (by have := HP5.out; omega)
        clear hS1
        go_wp2_with fail
        refine hC1.mono ?_
        rintro e w6 ⟨rfl, k3⟩
        have hge : decide (0 ≤ cmpN (aA N p3) (bB D p3)) = decide (bB D p3 ≤ aA N p3) := by
          unfold cmpN
          by_cases q : aA N p3 < bB D p3
          · rw [if_pos q, decide_eq_false (show ¬ bB D p3 ≤ aA N p3 by omega)]
            rfl
          · rw [if_neg q, decide_eq_true (show bB D p3 ≤ aA N p3 by omega)]
            split <;> rfl
        clear hC1
        have K6 : Hid (Keep w1 w6) := (kr.trans k2).trans k3
        clear kr k2 k3 na nb
        by_cases q : bB D p3 ≤ aA N p3
        · have hfd := HH.out.found HLT.out (by rw [HP5.out]; exact q)
          rw [decide_eq_true q] at hge
          obtain ⟨P, hP, hP1, l1, l2⟩ := hfd
          obtain ⟨P17, P19, j, bq, hbq, hj1, hj2, hj3, hno, hyes, hres⟩ := HH.out.dk P l1 l2
          obtain ⟨n0, hn0⟩ : ∃ n0, n0 + j = P := ⟨P - j, by omega⟩
          have HL1 : Hid (10 ^ (P - 1) * S ≤ V) := l1
          have HL2 : Hid (V < 10 ^ P * S) := l2
          have HNO : Hid (∀ i, j < i → i + 1 ≤ P → ∀ c, rIn lo hi c i = false) := hno
          have HYES : Hid (rIn lo hi bq j = true ∨ rIn lo hi (bq + 1) j = true) := hyes
          have HRES : Hid (((if rUp lo hi (S * 10 ^ j) bq (V % (S * 10 ^ j)) j = true then bq + 1 else bq) = d ∧ j = K) ∨ ((if rUp lo hi (S * 10 ^ j) bq (V % (S * 10 ^ j)) j = true then bq + 1 else bq) = 10 ∧ d = 1 ∧ K = j + 1)) := hres
          have HBQ : Hid (bq = V / (S * 10 ^ j)) := hbq
          have HPT : Hid (p2 + T = (P : Int)) := hP
          have HFA : Hid (1 ≤ P ∧ 17 ≤ P ∧ P ≤ 19 ∧ 1 ≤ j ∧ P ≤ j + 17 ∧ j + 1 ≤ P ∧ n0 + j = P) := ⟨hP1, P17, P19, hj1, hj2, hj3, hn0⟩
          have HPB : Hid (-390 ≤ p2 ∧ p2 ≤ 400) := ⟨hp3, hp4⟩
          clear q l1 l2 hno hyes hres hbq hP hP1 P17 P19 hj1 hj2 hj3 hn0 hp3 hp4 hpT2 HLT HP5 hg
          go_wp2_with fail
          go_loopg [13] (n0) (fun gg s13 wx => ∃ n : Nat, gg + n = n0 + 1 ∧ s13 = .int .i64 (n : Int) ∧ 1 ≤ n ∧ n ≤ n0 ∧ Keep w1 wx)
          case atStart => exact ⟨1, by omega, rfl, by omega, by have := HFA.out; omega, K6.out⟩
          case round =>
            obtain ⟨n, hgn, rfl, hn1, hn2, kr⟩ := hrel
            clear hge x1 K6
            obtain ⟨f1, f2, f3, f4, f5, f6, f7⟩ := HFA.out
            have hpb := HPB.out
            have hPT := HPT.out
            obtain ⟨i, hni⟩ : ∃ i, n + i = P := ⟨P - n, by omega⟩
            have hst := HH.out.step (n := n) (i := i) hPT HL1.out HL2.out hn1 hni (by omega)
            have d18 : decide ((n : Int) < 18) = true := decide_eq_true (by omega)
            have d18n : (n : Int) < 18 := by omega
            obtain ⟨z, hz⟩ : ∃ z, p2 - (n : Int) = z := ⟨_, rfl⟩
            have x2 : IntKind.i64.wrap (p2 - (n : Int)) = z := by rw [IntWalk.i64_left, hz]; exact IntWalk.wrap64_in _ (by omega)
            rw [hz] at hst
            have hzi : z + T = (i : Int) := by omega
            have hzb : -400 ≤ z ∧ z ≤ 400 := by omega
            obtain ⟨s1, s2, s3, s4, s5⟩ := hst
            obtain ⟨qq, hqq⟩ : ∃ qq, V / (S * 10 ^ i) = qq := ⟨_, rfl⟩
            rw [hqq] at s1 s2 s3
            have hS1 := hS _ _ z wr (N1.out.keep kr) (N2.out.keep kr) hzb
            have hzi2 : (z + T).toNat = i := by omega
            have hB1 := fun wx => hBk qq z s2 (by omega) (by omega) hzb wx
            have hB2 := fun wx => hBk (qq + 1) z (by omega) (by omega) (by omega) hzb wx
            rw [hzi2] at hB1 hB2
            have hDv := fun (v1 v2 : Value) wx (h1 : Nv wx v1 (aA N z)) (h2 : Nv wx v2 (bB D z)) => divide_nv v1 v2 _ _ 200 wx h1 h2 (bB_pos HH.out.d0 z) (bA z hzb) (bBb z hzb) (by omega) (sz_diff s5)
            rw [s1, Nat.mod_eq_of_lt (show qq < 18446744073709551616 by omega)] at hDv
            have hrl : aA N z % bB D z < bB D z := Nat.mod_lt _ (bB_pos HH.out.d0 z)
            have hUp := fun (v : Value) wx (h : Nv wx v (aA N z % bB D z)) => up_nv v _ 1 200 wx h (Nat.lt_trans hrl (bBb z hzb)) (by omega) (by omega)
            have hCm := fun (v1 v2 : Value) wx (h1 : Nv wx v1 (aA N z % bB D z * 2 ^ 1)) (h2 : Nv wx v2 (bB D z)) => cmp_nv v1 v2 _ _ 201 wx h1 h2 (by
              have h9 := bBb z hzb
              rw [Nat.pow_one, show (4294967296 : Nat) ^ 201 = 4294967296 ^ 200 * 4294967296 from Nat.pow_succ _ _]
              omega) (Nat.lt_of_lt_of_le (bBb z hzb) (Nat.pow_le_pow_right (by omega) (by omega))) (by omega)
            rw [s4] at hCm
            obtain ⟨R, hR⟩ : ∃ R, aA N z % bB D z = R := ⟨_, rfl⟩
            rw [hR] at hDv hUp hCm
            have q1 : IntKind.u64.wrap ((qq : Int) + 1) = ((qq + 1 : Nat) : Int) := by rw [IntKind.wrap_u64]; omega
            have F1 : Hid (qq < 100000000000000000 ∧ 0 < qq) := ⟨s3, s2⟩
            have F2 : Hid (V / (S * 10 ^ i) = qq) := hqq
            have F3 : Hid (n + i = P) := hni
            have F4 : Hid (z + T = (i : Int)) := hzi
            have F5 : Hid (-400 ≤ z ∧ z ≤ 400) := hzb
            have F6 : Hid (1 ≤ n ∧ n ≤ n0 ∧ gk + n = n0 + 1) := ⟨hn1, hn2, hgn⟩
            clear s1 s2 s3 s4 s5 hqq hni hzi hzb hn1 hn2 hgn f1 f2 f3 f4 f5 f6 f7 hpb hPT hz hzi2 hrl hR d18
            go_wp2_with fail
            refine hS1.mono ?_
            rintro e w5 ⟨va, vb, rfl, na, nb, k2⟩
            clear hS1
            have hDv1 := hDv va vb w5 na nb
            go_wp2_with fail
            refine hDv1.mono ?_
            rintro e w6 ⟨vr, rfl, nr, k3⟩
            clear hDv1 hDv
            have NR : Hid (Nv w6 vr R) := nr
            have NB : Hid (Nv w6 vb (bB D z)) := nb.keep k3
            have K6 : Hid (Keep w1 w6) := (kr.trans k2).trans k3
            clear nr na nb k2 k3 kr
            obtain ⟨c0, c1, c2, c3, c4⟩ := (B1'.out.keep K6.out).cells
            obtain ⟨e0, e1, e2⟩ := (B2'.out.keep K6.out).cells
            have hB1' := hB1 w6
            obtain ⟨b1, hb1⟩ : ∃ b1, rIn lo hi qq i = b1 := ⟨_, rfl⟩
            rw [hb1] at hB1'
            go_wp2_with fail
            refine hB1'.mono ?_
            rintro e w7 ⟨rfl, k7⟩
            clear hB1' hB1 c0 c1 c2 c3 c4 e0 e1 e2
            have K7 : Hid (Keep w1 w7) := K6.out.trans k7
            have NR7 : Hid (Nv w7 vr R) := NR.out.keep k7
            have NB7 : Hid (Nv w7 vb (bB D z)) := NB.out.keep k7
            clear NR NB K6 k7
            obtain ⟨c0, c1, c2, c3, c4⟩ := (B1'.out.keep K7.out).cells
            obtain ⟨e0, e1, e2⟩ := (B2'.out.keep K7.out).cells
            have hB2' := hB2 w7
            obtain ⟨b2, hb2⟩ : ∃ b2, rIn lo hi (qq + 1) i = b2 := ⟨_, rfl⟩
            rw [hb2] at hB2'
            go_wp2_with fail
            refine hB2'.mono ?_
            rintro e w8 ⟨rfl, k8⟩
            clear hB2' hB2 c0 c1 c2 c3 c4 e0 e1 e2
            have K8 : Hid (Keep w1 w8) := K7.out.trans k8
            have NR8 : Hid (Nv w8 vr R) := NR7.out.keep k8
            have NB8 : Hid (Nv w8 vb (bB D z)) := NB7.out.keep k8
            clear NR7 NB7 K7 k8
            have HB1 : Hid (rIn lo hi qq i = b1) := hb1
            have HB2 : Hid (rIn lo hi (qq + 1) i = b2) := hb2
            clear hb1 hb2
            by_cases hlast : n < n0
            · have t1 : b1 = false := by rw [← HB1.out]; exact HNO.out i (by have := HFA.out; have := F3.out; omega) (by have := F6.out; have := F3.out; omega) _
              have t2 : b2 = false := by rw [← HB2.out]; exact HNO.out i (by have := HFA.out; have := F3.out; omega) (by have := F6.out; have := F3.out; omega) _
              subst t1 t2
              have x3 : IntKind.i64.wrap ((n : Int) + 1) = ((n + 1 : Nat) : Int) := by rw [IntWalk.i64_left]; exact IntWalk.wrap64_in _ (by omega)
              go_wp2_with fail
              go_roundg (gk - 1)
              case measure => have := F6.out; omega
              case rel => exact ⟨n + 1, by have := F6.out; omega, by first | rfl | (congr 1), by omega, by omega, K8.out⟩
            · have hji : i = j := by have := HFA.out; have := F3.out; have := F6.out; omega
              subst hji
              have hqb : qq = bq := by rw [← F2.out]; exact HBQ.out.symm
              subst hqb
              have hb12 : b1 = true ∨ b2 = true := by rw [← HB1.out, ← HB2.out]; exact HYES.out
              obtain ⟨dd, hdd⟩ : ∃ dd, (if rUp lo hi (S * 10 ^ i) qq (V % (S * 10 ^ i)) i = true then qq + 1 else qq) = dd := ⟨_, rfl⟩
              have hres := HRES.out
              rw [hdd] at hres
              rw [rUp_cmp, HB1.out, HB2.out] at hdd
              obtain ⟨C, hC9⟩ : ∃ C, cmpN (2 * (V % (S * 10 ^ i))) (S * 10 ^ i) = C := ⟨_, rfl⟩
              have hC3 : C = -1 ∨ C = 0 ∨ C = 1 := by
                rw [← hC9]
                unfold cmpN
                split
                · exact .inl rfl
                · split
                  · exact .inr (.inr rfl)
                  · exact .inr (.inl rfl)
              rw [hC9] at hdd hCm
              obtain ⟨BB, hBB⟩ : ∃ BB, (!b1 || (b2 && (decide (0 < C) || (decide (C = 0) && decide (qq % 2 = 1))))) = BB := ⟨_, rfl⟩
              rw [hBB] at hdd
              have HDD : Hid ((if BB = true then qq + 1 else qq) = dd) := hdd
              have HRS : Hid ((dd = d ∧ i = K) ∨ (dd = 10 ∧ d = 1 ∧ K = i + 1)) := hres
              clear hC9 HRES HYES HNO HB1 HB2 HBQ hdd hres HL1 HL2 hlast x2 d18n hBk hS hC
              go_upto_region 17 with fail
              go_cut [92] from 56 to 135 (fun s92 wx => s92 = .bool false ∧ w8 = wx)
              case first =>
                clear hBB
                rcases hb12 with h | h
                · subst h
                  go_wp2_with fail
                  go_meet
                  exact ⟨rfl, rfl⟩
                · subst h
                  cases b1
                  · go_wp2_with fail
                    go_meet
                    exact ⟨rfl, rfl⟩
                  · go_wp2_with fail
                    go_meet
                    exact ⟨rfl, rfl⟩
              case rest =>
                obtain ⟨rfl, rfl⟩ := hcut
                have hU1 := hUp vr w8 NR8.out
                clear hUp
                go_wp2_with fail
                refine hU1.mono ?_
                rintro e w9 ⟨vu, rfl, nu, k9⟩
                have hC1 := hCm vu vb w9 nu (NB8.out.keep k9)
                clear hU1 hCm
                go_wp2_with fail
                refine hC1.mono ?_
                rintro e wt ⟨rfl, kt⟩
                have K10 : Hid (Keep w1 wt) := (K8.out.trans k9).trans kt
                clear hC1 nu K8 NR8 NB8 k9 kt
                go_upto_region 20 with fail
                go_cut [115] from 56 to 135 (fun s115 wx => s115 = .bool BB ∧ wt = wx)
                case first =>
                  have hm2 : qq % 2 = 0 ∨ qq % 2 = 1 := by omega
                  cases b1
                  · have hBB' : true = BB := hBB
                    subst hBB'
                    clear hBB
                    go_wp2_with fail
                    go_meet
                    exact ⟨rfl, rfl⟩
                  · cases b2
                    · have hBB' : false = BB := hBB
                      subst hBB'
                      clear hBB
                      go_wp2_with fail
                      go_meet
                      exact ⟨rfl, rfl⟩
                    · rcases hC3 with h | h | h
                      · subst h
                        have hBB' : false = BB := hBB
                        subst hBB'
                        clear hBB hb12
                        go_wp2_with fail
                        go_meet
                        exact ⟨rfl, rfl⟩
                      · subst h
                        have hBB' : decide (qq % 2 = 1) = BB := hBB
                        subst hBB'
                        clear hBB hb12
                        go_wp2_with fail
                        go_meet
                        refine ⟨?_, rfl⟩
                        rcases hm2 with g | g
                        · rw [decide_eq_false (show ¬ qq % 2 = 1 by omega)]
                          first | rfl | (congr 1; rw [beq_eq_false_iff_ne]; omega)
                        · rw [decide_eq_true g]
                          first | rfl | (congr 1; rw [beq_iff_eq]; omega)
                      · subst h
                        have hBB' : true = BB := hBB
                        subst hBB'
                        clear hBB hb12
                        go_wp2_with fail
                        go_meet
                        exact ⟨rfl, rfl⟩
                case rest =>
                  obtain ⟨rfl, rfl⟩ := hcut
                  clear hBB hC3 hb12
                  go_upto_if 115 with fail
                  go_cut [21] from 56 to 135 (fun s21 wx => s21 = .int .u64 (dd : Int) ∧ wt = wx)
                  case first =>
                    cases BB
                    · have hdd : qq = dd := HDD.out
                      subst hdd
                      go_wp2_with fail
                      go_meet
                      exact ⟨rfl, rfl⟩
                    · have hdd : qq + 1 = dd := HDD.out
                      subst hdd
                      go_wp2_with fail
                      go_meet
                      exact ⟨rfl, rfl⟩
                  case rest =>
                    obtain ⟨rfl, rfl⟩ := hcut
                    have hdb : dd < 18446744073709551616 := by
                      have h1 := F1.out
                      have h2 := HDD.out
                      split at h2 <;> omega
                    have hF := from_nv dd wt hdb
                    clear HDD q1
                    go_wp2_with fail
                    refine hF.mono ?_
                    rintro e wu ⟨vd, rfl, nd, ku⟩
                    have hDc := decimal_nv vd dd 2 wu nd (by rw [show (4294967296 : Nat) ^ 2 = 18446744073709551616 by decide]; exact hdb) (by omega)
                    clear hF
                    go_wp2_with fail
                    refine hDc.mono ?_
                    rintro e wv ⟨rfl, kv⟩
                    have K12 : Hid (Keep w1 wv) := (K10.out.trans ku).trans kv
                    clear hDc K10 ku kv nd hdb
                    go_wp2_with fail
                    go_loopg [14, 23] (1) (fun gg s14 s23 wx => ∃ (X : Nat) (kk : Int), s23 = .string ⟨(dD X).toArray⟩ ∧ s14 = .int .i64 kk ∧ Hid ((X = d ∧ kk = (K : Int) - T) ∨ (gg = 1 ∧ X = 10 ∧ d = 1 ∧ kk + 1 = (K : Int) - T)) ∧ Keep w1 wx)
                    case atStart =>
                      refine ⟨dd, z, rfl, rfl, ?_, K12.out⟩
                      have h1 := HRS.out
                      have h2 := F4.out
                      rcases h1 with ⟨g1, g2⟩ | ⟨g1, g2, g3⟩
                      · exact .inl ⟨g1, by omega⟩
                      · exact .inr ⟨rfl, g1, g2, by omega⟩
                    case round =>
                      obtain ⟨X, kk, rfl, rfl, hX, kr⟩ := hrel
                      clear K12 HRS F4
                      rcases hX.out with ⟨g1, g2⟩ | ⟨g0, g1, g2, g3⟩
                      · subst g1 g2
                        obtain ⟨l, cc, hl, hcc⟩ := dD_end HH.out.el
                        have hz1 : (ByteArray.mk (dD X).toArray).size = l.length + 1 := by rw [sz_mk, hl, List.length_append]; rfl
                        have hix := run_ix (dD X) l.length (by rw [hl, List.length_append]; exact Nat.lt_succ_self _) wr
                        have hgd : (dD X).getD l.length 0 = cc := by rw [hl]; simp
                        rw [hgd] at hix
                        have hlb : l.length ≤ 17 := by
                          have h9 := dD_len 16 X (by rw [show (10 : Nat) ^ (16 + 1) = 100000000000000000 by decide]; exact HH.out.eb)
                          rw [hl, List.length_append, List.length_singleton] at h9
                          omega
                        clear hl hgd hX
                        generalize l.length = m at *
                        have hw : IntKind.i64.wrap (((m + 1 : Nat) : Int) - 1) = (m : Int) := by rw [IntWalk.i64_left, show ((m + 1 : Nat) : Int) - 1 = (m : Int) by omega]; exact IntWalk.wrap64_in _ (by omega)
                        have hw2 : IntKind.i64.wrap ((m : Int) + 1 - 1) = (m : Int) := by rw [IntWalk.i64_left, show (m : Int) + 1 - 1 = (m : Int) by omega]; exact IntWalk.wrap64_in _ (by omega)
                        go_wp2_with fail
                        go_ret2
                        exact ⟨rfl, KW.out.trans kr⟩
                      · subst g1
                        have h10 : dD 10 = [49, 48] := by rw [dD_step (by omega), dD_small (by omega)]; rfl
                        rw [h10]
                        have x5 : IntKind.i64.wrap (kk + 1) = kk + 1 := by rw [IntWalk.i64_left]; exact IntWalk.wrap64_in _ (by omega)
                        have hix := run_ix [49, 48] 1 (by decide) wr
                        have hup := run_upto [49, 48] 1 (by decide) wr
                        have hz1 : (ByteArray.mk [49, 48].toArray).size = 2 := rfl
                        clear hX
                        go_wp2_with fail
                        go_roundg 0
                        case measure => omega
                        case rel => exact ⟨1, (K : Int) - T, by rw [dD_small (by omega)]; rfl, rfl, .inl ⟨g2.symm, rfl⟩, kr⟩
        · rw [decide_eq_false q] at hge
          have hq3 : 0 < p3 + T := by
            rcases Int.lt_or_le 0 (p3 + T) with q1 | q1
            · exact q1
            · have := HH.out.low q1
              omega
          have hq4 : aA N p3 < bB D p3 := by omega
          have HQ4 : Hid (aA N p3 < bB D p3) := hq4
          clear q hq4
          go_wp2_with fail
          go_roundg ((p3 + T).toNat)
          case measure => have := HP5.out; omega
          case rel => exact ⟨p3, rfl, rfl, by have := HP5.out; omega, by have := HP5.out; omega, hq3, HQ4.out, K6.out⟩
    · rw [decide_eq_false q] at hlt
      have hp19 : p + T < 19 := by
        rcases Int.lt_or_le (p + T) 19 with q1 | q1
        · exact q1
        · exact absurd (HH.out.high q1) q
      clear q
      have x1 : IntKind.i64.wrap (p + 1) = p + 1 := by rw [IntWalk.i64_left]; exact IntWalk.wrap64_in _ (by omega)
      go_wp2_with fail
      go_roundg ((22 - T - (p + 1)).toNat)
      case measure => omega
      case rel => exact ⟨p + 1, rfl, rfl, by omega, .inr (by omega), K3.out⟩
end Go.Proofs.YtpdjpjkieafnbaaGreatDoor.Li
set_option linter.unusedVariables false
set_option linter.unusedSimpArgs false
namespace Go.Proofs.YtpdjpjkieafnbaaGreatDoor.Li
open Go.RowKit Lb Nr
set_option maxRecDepth 100000 in
set_option maxHeartbeats 2000000 in
/-- The reference's Shortest of a number that has digits, of whatever format. -/
theorem rShortest_gen (a : Bool) (M : Nat) (E x0 y0 u0 : Int) (d : List UInt8) (p : Int) (w : World) (hM : 0 < M) (hd : 1 ≤ d.length ∧ d.length ≤ 20) (hp : -1000 ≤ p ∧ p ≤ 1000)
    (hDc : ∀ wx, Calls Tryz.prog 59 #[.agg #[.bool a, .bool false, .bool false, .int .u64 (M : Int), .int .i64 E], .agg #[.int .i64 x0, .int .i64 y0, .int .i64 u0]] wx fun e w' => e = .returned (.tuple #[.string ⟨d.toArray⟩, .int .i64 p]) ∧ Keep wx w') :
    Calls Tryz.prog 22 #[.agg #[.bool a, .bool false, .bool false, .int .u64 (M : Int), .int .i64 E], .agg #[.int .i64 x0, .int .i64 y0, .int .i64 u0]] w fun e w' => e = .returned (.string ⟨(sgN a ++ loT d p).toArray⟩) ∧ Keep w w' := by
  obtain ⟨W, hW, B1, B2, kW⟩ := boxes w a false false M E x0 y0 u0
  have hSp := special_some a M E W hM
  obtain ⟨s, hs⟩ : ∃ s, sgN a = s := ⟨_, rfl⟩
  have ls : s.length ≤ 1 := by rw [← hs]; unfold sgN; split <;> decide
  rw [hs] at hSp ⊢
  obtain ⟨zs, ezs⟩ : ∃ z, (ByteArray.mk s.toArray).size = z := ⟨_, rfl⟩
  have szs : zs ≤ 1 := by rw [← ezs, sz_mk]; exact ls
  obtain ⟨n, hn⟩ : ∃ n, d.length = n := ⟨_, rfl⟩
  have ezd : (ByteArray.mk d.toArray).size = n := by rw [sz_mk, hn]
  obtain ⟨x, hx⟩ : ∃ x : Int, (n : Int) + p = x := ⟨_, rfl⟩
  have HL : loT d p = loT d p := rfl
  conv at HL => rhs; unfold loT
  rw [hn, hx] at HL
  obtain ⟨R, hR⟩ : ∃ R, loT d p = R := ⟨_, rfl⟩
  rw [hR] at HL ⊢
  have hd1 : 1 ≤ n := by omega
  have hd2 : n ≤ 20 := by omega
  have ld : d.length ≤ 20 := hd.2
  have wx0 : IntKind.i64.wrap ((n : Int) + p) = x := by rw [IntWalk.i64_left, hx]; exact IntWalk.wrap64_in _ (by omega)
  have HN : Hid (d.length = n) := hn
  have HP : Hid (-1000 ≤ p ∧ p ≤ 1000 ∧ (n : Int) + p = x) := ⟨hp.1, hp.2, hx⟩
  have HLL : Hid (R = _) := HL
  clear hs HL hR hd hn hp hx
  go_enter Tryz.func22, Tryz.ntmps22
  go_wp2_with fail
  rw [← hW]
  clear hW
  obtain ⟨c0, c1, c2, c3, c4⟩ := B1.cells
  refine hSp.mono ?_
  rintro e w1 ⟨rfl, k1⟩
  obtain ⟨c0, c1, c2, c3, c4⟩ := (B1.keep k1).cells
  obtain ⟨e0, e1, e2⟩ := (B2.keep k1).cells
  clear hSp
  go_wp2_with fail
  refine (hDc w1).mono ?_
  rintro e w2 ⟨rfl, k2⟩
  have KW : Hid (Keep w w2) := (kW.trans k1).trans k2
  clear hDc c0 c1 c2 c3 c4 e0 e1 e2 B1 B2 kW k1 k2
  have hpp := HP.out
  have HL := HLL.out
  clear HLL
  by_cases c1 : (n : Int) ≤ x ∧ x ≤ 21
  · rw [if_pos c1] at HL
    obtain ⟨k, hk⟩ : ∃ k : Nat, p = (k : Int) := ⟨p.toNat, by omega⟩
    have hR := fun wx => noughts_any k wx (by omega)
    have wz : IntKind.i64.wrap (x - (n : Int)) = (k : Int) := by rw [IntWalk.i64_left, show x - (n : Int) = (k : Int) by omega]; exact IntWalk.wrap64_in _ (by omega)
    rw [hk, Int.toNat_natCast] at HL
    obtain ⟨rp, hrp⟩ : ∃ F : List UInt8, F = List.replicate k (48 : UInt8) := ⟨_, rfl⟩
    have lrp : rp.length ≤ 1000 := by
      rw [hrp]
      rw [List.length_replicate]
      omega
    obtain ⟨zrp, erp⟩ : ∃ z, (ByteArray.mk rp.toArray).size = z := ⟨_, rfl⟩
    have srp : zrp ≤ 1000 := by rw [← erp, sz_mk]; exact lrp
    rw [← hrp] at HL hR
    obtain ⟨F1, hF1⟩ : ∃ F : List UInt8, F = s ++ d := ⟨_, rfl⟩
    have cF1 : ByteArray.mk s.toArray ++ ByteArray.mk d.toArray = ByteArray.mk F1.toArray := by rw [hF1]; exact catB (s) (d)
    obtain ⟨zF1, eF1⟩ : ∃ z, (ByteArray.mk F1.toArray).size = z := ⟨_, rfl⟩
    have lF1 : F1.length ≤ 30 := by
      rw [hF1, List.length_append]
      have := ls
      have := ld
      try simp only [List.length_cons, List.length_nil]
      omega
    have sF1 : zF1 ≤ 30 := by rw [← eF1, sz_mk]; exact lF1
    have HF1 : Hid (F1 = s ++ d) := hF1
    clear hF1
    obtain ⟨F2, hF2⟩ : ∃ F : List UInt8, F = F1 ++ rp := ⟨_, rfl⟩
    have cF2 : ByteArray.mk F1.toArray ++ ByteArray.mk rp.toArray = ByteArray.mk F2.toArray := by rw [hF2]; exact catB (F1) (rp)
    obtain ⟨zF2, eF2⟩ : ∃ z, (ByteArray.mk F2.toArray).size = z := ⟨_, rfl⟩
    have lF2 : F2.length ≤ 1100 := by
      rw [hF2, List.length_append]
      have := lF1
      have := lrp
      try simp only [List.length_cons, List.length_nil]
      omega
    have sF2 : zF2 ≤ 1100 := by rw [← eF2, sz_mk]; exact lF2
    have HF2 : Hid (F2 = F1 ++ rp) := hF2
    clear hF2
    have HE : Hid (s ++ R = F2) := by unfold Hid; rw [HF2.out, HF1.out, HL, List.append_assoc]
    have q1 : decide ((n : Int) ≤ x) = true := decide_eq_true c1.1
    have q2 : decide (x ≤ 21) = true := decide_eq_true c1.2
    have KB : Hid (k ≤ 1000) := by unfold Hid; omega
    clear HL c1 hrp hk hpp
    go_wp2_with fail
    refine (hR _).mono ?_
    rintro e w3 ⟨rfl, k3⟩
    go_wp2_with fail
    go_ret
    exact ⟨by rw [HE.out]; rfl, KW.out.trans k3⟩
  · rw [if_neg c1] at HL
    by_cases c2 : 0 < x ∧ x ≤ 21
    · rw [if_pos c2] at HL
      obtain ⟨k, rfl⟩ : ∃ k : Nat, x = (k : Int) := ⟨x.toNat, by omega⟩
      rw [Int.toNat_natCast] at HL
      have q1 : decide (n ≤ k) = false := decide_eq_false (by omega)
      have q1' : decide ((n : Int) ≤ (k : Int)) = false := decide_eq_false (by omega)
      have q2 : decide ((k : Int) ≤ 21) = true := decide_eq_true (by omega)
      have q2' : decide (k ≤ 21) = true := decide_eq_true (by omega)
      have q3 : decide (0 < k) = true := decide_eq_true (by omega)
      have q3' : decide ((0 : Int) < (k : Int)) = true := decide_eq_true (by omega)
      have hS1 := fun wx => run_upto d k (by have := HN.out; omega) wx
      have hS2 := fun wx => run_from d k (by have := HN.out; omega) wx
      obtain ⟨t1, ht1⟩ : ∃ F : List UInt8, F = d.take k := ⟨_, rfl⟩
      have lt1 : t1.length ≤ 20 := by
        rw [ht1]
        rw [List.length_take]
        omega
      obtain ⟨zt1, et1⟩ : ∃ z, (ByteArray.mk t1.toArray).size = z := ⟨_, rfl⟩
      have st1 : zt1 ≤ 20 := by rw [← et1, sz_mk]; exact lt1
      obtain ⟨t2, ht2⟩ : ∃ F : List UInt8, F = d.drop k := ⟨_, rfl⟩
      have lt2 : t2.length ≤ 20 := by
        rw [ht2]
        rw [List.length_drop]
        omega
      obtain ⟨zt2, et2⟩ : ∃ z, (ByteArray.mk t2.toArray).size = z := ⟨_, rfl⟩
      have st2 : zt2 ≤ 20 := by rw [← et2, sz_mk]; exact lt2
      rw [← ht1] at hS1 HL
      rw [← ht2] at hS2 HL
      obtain ⟨F1, hF1⟩ : ∃ F : List UInt8, F = s ++ t1 := ⟨_, rfl⟩
      have cF1 : ByteArray.mk s.toArray ++ ByteArray.mk t1.toArray = ByteArray.mk F1.toArray := by rw [hF1]; exact catB (s) (t1)
      obtain ⟨zF1, eF1⟩ : ∃ z, (ByteArray.mk F1.toArray).size = z := ⟨_, rfl⟩
      have lF1 : F1.length ≤ 30 := by
        rw [hF1, List.length_append]
        have := ls
        have := lt1
        try simp only [List.length_cons, List.length_nil]
        omega
      have sF1 : zF1 ≤ 30 := by rw [← eF1, sz_mk]; exact lF1
      have HF1 : Hid (F1 = s ++ t1) := hF1
      clear hF1
      obtain ⟨F2, hF2⟩ : ∃ F : List UInt8, F = F1 ++ [46] := ⟨_, rfl⟩
      have cF2 : ByteArray.mk F1.toArray ++ ByteArray.mk #[46] = ByteArray.mk F2.toArray := by rw [hF2]; exact catB (F1) ([46])
      obtain ⟨zF2, eF2⟩ : ∃ z, (ByteArray.mk F2.toArray).size = z := ⟨_, rfl⟩
      have lF2 : F2.length ≤ 31 := by
        rw [hF2, List.length_append]
        have := lF1
        try simp only [List.length_cons, List.length_nil]
        omega
      have sF2 : zF2 ≤ 31 := by rw [← eF2, sz_mk]; exact lF2
      have HF2 : Hid (F2 = F1 ++ [46]) := hF2
      clear hF2
      obtain ⟨F3, hF3⟩ : ∃ F : List UInt8, F = F2 ++ t2 := ⟨_, rfl⟩
      have cF3 : ByteArray.mk F2.toArray ++ ByteArray.mk t2.toArray = ByteArray.mk F3.toArray := by rw [hF3]; exact catB (F2) (t2)
      obtain ⟨zF3, eF3⟩ : ∃ z, (ByteArray.mk F3.toArray).size = z := ⟨_, rfl⟩
      have lF3 : F3.length ≤ 60 := by
        rw [hF3, List.length_append]
        have := lF2
        have := lt2
        try simp only [List.length_cons, List.length_nil]
        omega
      have sF3 : zF3 ≤ 60 := by rw [← eF3, sz_mk]; exact lF3
      have HF3 : Hid (F3 = F2 ++ t2) := hF3
      clear hF3
      have HE : Hid (s ++ R = F3) := by unfold Hid; rw [HF3.out, HF2.out, HF1.out, HL]; simp
      clear HL c1 c2 ht1 ht2 hpp
      go_upto_region 10 with fail
      go_region_with fail
      all_goals (go_wp2_with fail; go_ret; exact ⟨by rw [HE.out]; rfl, by first | exact KW.out | exact KW.out.trans ((Keep.refl _).drewN _) | exact KW.out.trans (Keep.refl _).drew⟩)
    · rw [if_neg c2] at HL
      by_cases c3 : -6 < x ∧ x ≤ 0
      · rw [if_pos c3] at HL
        obtain ⟨k, hk⟩ : ∃ k : Nat, -x = (k : Int) := ⟨(-x).toNat, by omega⟩
        rw [hk, Int.toNat_natCast] at HL
        have q1 : decide ((n : Int) ≤ x) = false := decide_eq_false (by omega)
        have q3 : decide (0 < x) = false := decide_eq_false (by omega)
        have q4 : decide (-6 < x) = true := decide_eq_true c3.1
        have q5 : decide (x ≤ 0) = true := decide_eq_true c3.2
        have hR := fun wx => noughts_any k wx (by omega)
        have wz : IntKind.i64.wrap (-x) = (k : Int) := by rw [IntWalk.i64_left, hk]; exact IntWalk.wrap64_in _ (by omega)
        have wz2 : wrap64 (-x) = (k : Int) := by rw [hk]; exact IntWalk.wrap64_in _ (by omega)
        obtain ⟨rp, hrp⟩ : ∃ F : List UInt8, F = List.replicate k (48 : UInt8) := ⟨_, rfl⟩
        have lrp : rp.length ≤ 10 := by
          rw [hrp]
          rw [List.length_replicate]
          omega
        obtain ⟨zrp, erp⟩ : ∃ z, (ByteArray.mk rp.toArray).size = z := ⟨_, rfl⟩
        have srp : zrp ≤ 10 := by rw [← erp, sz_mk]; exact lrp
        rw [← hrp] at HL hR
        obtain ⟨F1, hF1⟩ : ∃ F : List UInt8, F = s ++ [48, 46] := ⟨_, rfl⟩
        have cF1 : ByteArray.mk s.toArray ++ ByteArray.mk #[48, 46] = ByteArray.mk F1.toArray := by rw [hF1]; exact catB (s) ([48, 46])
        obtain ⟨zF1, eF1⟩ : ∃ z, (ByteArray.mk F1.toArray).size = z := ⟨_, rfl⟩
        have lF1 : F1.length ≤ 30 := by
          rw [hF1, List.length_append]
          have := ls
          try simp only [List.length_cons, List.length_nil]
          omega
        have sF1 : zF1 ≤ 30 := by rw [← eF1, sz_mk]; exact lF1
        have HF1 : Hid (F1 = s ++ [48, 46]) := hF1
        clear hF1
        obtain ⟨F2, hF2⟩ : ∃ F : List UInt8, F = F1 ++ rp := ⟨_, rfl⟩
        have cF2 : ByteArray.mk F1.toArray ++ ByteArray.mk rp.toArray = ByteArray.mk F2.toArray := by rw [hF2]; exact catB (F1) (rp)
        obtain ⟨zF2, eF2⟩ : ∃ z, (ByteArray.mk F2.toArray).size = z := ⟨_, rfl⟩
        have lF2 : F2.length ≤ 41 := by
          rw [hF2, List.length_append]
          have := lF1
          have := lrp
          try simp only [List.length_cons, List.length_nil]
          omega
        have sF2 : zF2 ≤ 41 := by rw [← eF2, sz_mk]; exact lF2
        have HF2 : Hid (F2 = F1 ++ rp) := hF2
        clear hF2
        obtain ⟨F3, hF3⟩ : ∃ F : List UInt8, F = F2 ++ d := ⟨_, rfl⟩
        have cF3 : ByteArray.mk F2.toArray ++ ByteArray.mk d.toArray = ByteArray.mk F3.toArray := by rw [hF3]; exact catB (F2) (d)
        obtain ⟨zF3, eF3⟩ : ∃ z, (ByteArray.mk F3.toArray).size = z := ⟨_, rfl⟩
        have lF3 : F3.length ≤ 70 := by
          rw [hF3, List.length_append]
          have := lF2
          have := ld
          try simp only [List.length_cons, List.length_nil]
          omega
        have sF3 : zF3 ≤ 70 := by rw [← eF3, sz_mk]; exact lF3
        have HF3 : Hid (F3 = F2 ++ d) := hF3
        clear hF3
        have HE : Hid (s ++ R = F3) := by unfold Hid; rw [HF3.out, HF2.out, HF1.out, HL]; simp
        clear HL c1 c2 c3 hrp hk hpp
        go_wp2_with fail
        refine (hR _).mono ?_
        rintro e w3 ⟨rfl, k3⟩
        go_wp2_with fail
        go_ret
        exact ⟨by rw [HE.out]; rfl, KW.out.trans k3⟩
      · rw [if_neg c3] at HL
        by_cases big : 21 < x
        · obtain ⟨y, hy⟩ : ∃ y : Nat, x - 1 = (y : Int) := ⟨(x - 1).toNat, by omega⟩
          have hws : wsT (x - 1) = 43 :: dD y := by rw [hy]; unfold wsT; rw [if_neg (by omega)]; rfl
          have q1 : decide ((n : Int) ≤ x) = true := decide_eq_true (by omega)
          have q2 : decide (x ≤ 21) = false := decide_eq_false (by omega)
          have q3 : decide (0 < x) = true := decide_eq_true (by omega)
          have q4 : decide (-6 < x) = true := decide_eq_true (by omega)
          have q5 : decide (x ≤ 0) = false := decide_eq_false (by omega)
          have w1 : IntKind.i64.wrap (x - 1) = (y : Int) := by rw [IntWalk.i64_left, hy]; exact IntWalk.wrap64_in _ (by omega)
          have q7 : decide ((y : Int) < 0) = false := decide_eq_false (by omega)
          have hNb := fun wx => number_dD y wx (by omega)
          rw [hws] at HL
          obtain ⟨nm, hnm⟩ : ∃ F : List UInt8, F = dD y := ⟨_, rfl⟩
          have lnm : nm.length ≤ 5 := by
            rw [hnm]
            exact dD_few (by omega)
          obtain ⟨znm, enm⟩ : ∃ z, (ByteArray.mk nm.toArray).size = z := ⟨_, rfl⟩
          have snm : znm ≤ 5 := by rw [← enm, sz_mk]; exact lnm
          rw [← hnm] at HL hNb
          by_cases c5 : 1 < n
          · have q6 : decide (1 < n) = true := decide_eq_true c5
            have q6' : decide ((1 : Int) < (n : Int)) = true := decide_eq_true (by omega)
            rw [if_pos c5] at HL
            have hS1 : ∀ wx, (Instr.slice 9 (.string ⟨d.toArray⟩) none (some (.int .i64 1)) none).run Tryz.prog wx = .ok (.string ⟨(d.take 1).toArray⟩) wx := fun wx => run_upto d 1 (by have := HN.out; omega) wx
            have hS2 : ∀ wx, (Instr.slice 9 (.string ⟨d.toArray⟩) (some (.int .i64 1)) none none).run Tryz.prog wx = .ok (.string ⟨(d.drop 1).toArray⟩) wx := fun wx => run_from d 1 (by have := HN.out; omega) wx
            obtain ⟨t1, ht1⟩ : ∃ F : List UInt8, F = d.take 1 := ⟨_, rfl⟩
            have lt1 : t1.length ≤ 20 := by
              rw [ht1]
              rw [List.length_take]
              omega
            obtain ⟨zt1, et1⟩ : ∃ z, (ByteArray.mk t1.toArray).size = z := ⟨_, rfl⟩
            have st1 : zt1 ≤ 20 := by rw [← et1, sz_mk]; exact lt1
            obtain ⟨t2, ht2⟩ : ∃ F : List UInt8, F = d.drop 1 := ⟨_, rfl⟩
            have lt2 : t2.length ≤ 20 := by
              rw [ht2]
              rw [List.length_drop]
              omega
            obtain ⟨zt2, et2⟩ : ∃ z, (ByteArray.mk t2.toArray).size = z := ⟨_, rfl⟩
            have st2 : zt2 ≤ 20 := by rw [← et2, sz_mk]; exact lt2
            rw [← ht1] at hS1 HL
            rw [← ht2] at hS2 HL
            obtain ⟨D1, hD1⟩ : ∃ F : List UInt8, F = t1 ++ [46] := ⟨_, rfl⟩
            have cD1 : ByteArray.mk t1.toArray ++ ByteArray.mk #[46] = ByteArray.mk D1.toArray := by rw [hD1]; exact catB (t1) ([46])
            obtain ⟨zD1, eD1⟩ : ∃ z, (ByteArray.mk D1.toArray).size = z := ⟨_, rfl⟩
            have lD1 : D1.length ≤ 21 := by
              rw [hD1, List.length_append]
              have := lt1
              try simp only [List.length_cons, List.length_nil]
              omega
            have sD1 : zD1 ≤ 21 := by rw [← eD1, sz_mk]; exact lD1
            have HD1 : Hid (D1 = t1 ++ [46]) := hD1
            clear hD1
            obtain ⟨D2, hD2⟩ : ∃ F : List UInt8, F = D1 ++ t2 := ⟨_, rfl⟩
            have cD2 : ByteArray.mk D1.toArray ++ ByteArray.mk t2.toArray = ByteArray.mk D2.toArray := by rw [hD2]; exact catB (D1) (t2)
            obtain ⟨zD2, eD2⟩ : ∃ z, (ByteArray.mk D2.toArray).size = z := ⟨_, rfl⟩
            have lD2 : D2.length ≤ 41 := by
              rw [hD2, List.length_append]
              have := lD1
              have := lt2
              try simp only [List.length_cons, List.length_nil]
              omega
            have sD2 : zD2 ≤ 41 := by rw [← eD2, sz_mk]; exact lD2
            have HD2 : Hid (D2 = D1 ++ t2) := hD2
            clear hD2
            obtain ⟨F1, hF1⟩ : ∃ F : List UInt8, F = s ++ D2 := ⟨_, rfl⟩
            have cF1 : ByteArray.mk s.toArray ++ ByteArray.mk D2.toArray = ByteArray.mk F1.toArray := by rw [hF1]; exact catB (s) (D2)
            obtain ⟨zF1, eF1⟩ : ∃ z, (ByteArray.mk F1.toArray).size = z := ⟨_, rfl⟩
            have lF1 : F1.length ≤ 50 := by
              rw [hF1, List.length_append]
              have := ls
              have := lD2
              try simp only [List.length_cons, List.length_nil]
              omega
            have sF1 : zF1 ≤ 50 := by rw [← eF1, sz_mk]; exact lF1
            have HF1 : Hid (F1 = s ++ D2) := hF1
            clear hF1
            obtain ⟨F2, hF2⟩ : ∃ F : List UInt8, F = F1 ++ [101, 43] := ⟨_, rfl⟩
            have cF2 : ByteArray.mk F1.toArray ++ ByteArray.mk #[101, 43] = ByteArray.mk F2.toArray := by rw [hF2]; exact catB (F1) ([101, 43])
            obtain ⟨zF2, eF2⟩ : ∃ z, (ByteArray.mk F2.toArray).size = z := ⟨_, rfl⟩
            have lF2 : F2.length ≤ 52 := by
              rw [hF2, List.length_append]
              have := lF1
              try simp only [List.length_cons, List.length_nil]
              omega
            have sF2 : zF2 ≤ 52 := by rw [← eF2, sz_mk]; exact lF2
            have HF2 : Hid (F2 = F1 ++ [101, 43]) := hF2
            clear hF2
            obtain ⟨F3, hF3⟩ : ∃ F : List UInt8, F = F2 ++ nm := ⟨_, rfl⟩
            have cF3 : ByteArray.mk F2.toArray ++ ByteArray.mk nm.toArray = ByteArray.mk F3.toArray := by rw [hF3]; exact catB (F2) (nm)
            obtain ⟨zF3, eF3⟩ : ∃ z, (ByteArray.mk F3.toArray).size = z := ⟨_, rfl⟩
            have lF3 : F3.length ≤ 60 := by
              rw [hF3, List.length_append]
              have := lF2
              have := lnm
              try simp only [List.length_cons, List.length_nil]
              omega
            have sF3 : zF3 ≤ 60 := by rw [← eF3, sz_mk]; exact lF3
            have HF3 : Hid (F3 = F2 ++ nm) := hF3
            clear hF3
            have HE : Hid (s ++ R = F3) := by unfold Hid; rw [HF3.out, HF2.out, HF1.out, HD2.out, HD1.out, HL]; simp
            clear HL c1 c2 c3 big c5 hnm hws hpp hy ht1 ht2
            go_upto_region 14 with fail
            go_region_with fail
            all_goals (go_wp2_with fail; refine (hNb _).mono ?_; rintro e w3 ⟨rfl, k3⟩; go_wp2_with fail; go_ret; exact ⟨by rw [HE.out]; rfl, by first | exact KW.out.trans k3 | exact (KW.out.trans ((Keep.refl _).drewN _)).trans k3 | exact (KW.out.trans (Keep.refl _).drew).trans k3⟩)
          · have q6 : decide (1 < n) = false := decide_eq_false c5
            have q6' : decide ((1 : Int) < (n : Int)) = false := decide_eq_false (by omega)
            rw [if_neg c5] at HL
            obtain ⟨F1, hF1⟩ : ∃ F : List UInt8, F = s ++ d := ⟨_, rfl⟩
            have cF1 : ByteArray.mk s.toArray ++ ByteArray.mk d.toArray = ByteArray.mk F1.toArray := by rw [hF1]; exact catB (s) (d)
            obtain ⟨zF1, eF1⟩ : ∃ z, (ByteArray.mk F1.toArray).size = z := ⟨_, rfl⟩
            have lF1 : F1.length ≤ 50 := by
              rw [hF1, List.length_append]
              have := ls
              have := ld
              try simp only [List.length_cons, List.length_nil]
              omega
            have sF1 : zF1 ≤ 50 := by rw [← eF1, sz_mk]; exact lF1
            have HF1 : Hid (F1 = s ++ d) := hF1
            clear hF1
            obtain ⟨F2, hF2⟩ : ∃ F : List UInt8, F = F1 ++ [101, 43] := ⟨_, rfl⟩
            have cF2 : ByteArray.mk F1.toArray ++ ByteArray.mk #[101, 43] = ByteArray.mk F2.toArray := by rw [hF2]; exact catB (F1) ([101, 43])
            obtain ⟨zF2, eF2⟩ : ∃ z, (ByteArray.mk F2.toArray).size = z := ⟨_, rfl⟩
            have lF2 : F2.length ≤ 52 := by
              rw [hF2, List.length_append]
              have := lF1
              try simp only [List.length_cons, List.length_nil]
              omega
            have sF2 : zF2 ≤ 52 := by rw [← eF2, sz_mk]; exact lF2
            have HF2 : Hid (F2 = F1 ++ [101, 43]) := hF2
            clear hF2
            obtain ⟨F3, hF3⟩ : ∃ F : List UInt8, F = F2 ++ nm := ⟨_, rfl⟩
            have cF3 : ByteArray.mk F2.toArray ++ ByteArray.mk nm.toArray = ByteArray.mk F3.toArray := by rw [hF3]; exact catB (F2) (nm)
            obtain ⟨zF3, eF3⟩ : ∃ z, (ByteArray.mk F3.toArray).size = z := ⟨_, rfl⟩
            have lF3 : F3.length ≤ 60 := by
              rw [hF3, List.length_append]
              have := lF2
              have := lnm
              try simp only [List.length_cons, List.length_nil]
              omega
            have sF3 : zF3 ≤ 60 := by rw [← eF3, sz_mk]; exact lF3
            have HF3 : Hid (F3 = F2 ++ nm) := hF3
            clear hF3
            have HE : Hid (s ++ R = F3) := by unfold Hid; rw [HF3.out, HF2.out, HF1.out, HL]; simp
            clear HL c1 c2 c3 big c5 hnm hws hpp hy
            go_wp2_with fail
            refine (hNb _).mono ?_
            rintro e w3 ⟨rfl, k3⟩
            go_wp2_with fail
            go_ret
            exact ⟨by rw [HE.out]; rfl, KW.out.trans k3⟩
        · obtain ⟨y, hy⟩ : ∃ y : Nat, 1 - x = (y : Int) := ⟨(1 - x).toNat, by omega⟩
          have hws : wsT (x - 1) = 45 :: dD y := by rw [show x - 1 = -(y : Int) by omega]; unfold wsT; rw [if_pos (by omega), Int.natAbs_neg]; rfl
          have q1 : decide ((n : Int) ≤ x) = false := decide_eq_false (by omega)
          have q3 : decide (0 < x) = false := decide_eq_false (by omega)
          have q4 : decide (-6 < x) = false := decide_eq_false (by omega)
          obtain ⟨y2, hy2⟩ : ∃ y2 : Int, x - 1 = y2 := ⟨_, rfl⟩
          have w0 : IntKind.i64.wrap (x - 1) = y2 := by rw [IntWalk.i64_left, hy2]; exact IntWalk.wrap64_in _ (by omega)
          have q7 : decide (y2 < 0) = true := decide_eq_true (by omega)
          have w1 : IntKind.i64.wrap (1 - x) = (y : Int) := by rw [IntWalk.i64_left, hy]; exact IntWalk.wrap64_in _ (by omega)
          have hNb := fun wx => number_dD y wx (by omega)
          rw [hws] at HL
          obtain ⟨nm, hnm⟩ : ∃ F : List UInt8, F = dD y := ⟨_, rfl⟩
          have lnm : nm.length ≤ 5 := by
            rw [hnm]
            exact dD_few (by omega)
          obtain ⟨znm, enm⟩ : ∃ z, (ByteArray.mk nm.toArray).size = z := ⟨_, rfl⟩
          have snm : znm ≤ 5 := by rw [← enm, sz_mk]; exact lnm
          rw [← hnm] at HL hNb
          by_cases c5 : 1 < n
          · have q6 : decide (1 < n) = true := decide_eq_true c5
            have q6' : decide ((1 : Int) < (n : Int)) = true := decide_eq_true (by omega)
            rw [if_pos c5] at HL
            have hS1 : ∀ wx, (Instr.slice 9 (.string ⟨d.toArray⟩) none (some (.int .i64 1)) none).run Tryz.prog wx = .ok (.string ⟨(d.take 1).toArray⟩) wx := fun wx => run_upto d 1 (by have := HN.out; omega) wx
            have hS2 : ∀ wx, (Instr.slice 9 (.string ⟨d.toArray⟩) (some (.int .i64 1)) none none).run Tryz.prog wx = .ok (.string ⟨(d.drop 1).toArray⟩) wx := fun wx => run_from d 1 (by have := HN.out; omega) wx
            obtain ⟨t1, ht1⟩ : ∃ F : List UInt8, F = d.take 1 := ⟨_, rfl⟩
            have lt1 : t1.length ≤ 20 := by
              rw [ht1]
              rw [List.length_take]
              omega
            obtain ⟨zt1, et1⟩ : ∃ z, (ByteArray.mk t1.toArray).size = z := ⟨_, rfl⟩
            have st1 : zt1 ≤ 20 := by rw [← et1, sz_mk]; exact lt1
            obtain ⟨t2, ht2⟩ : ∃ F : List UInt8, F = d.drop 1 := ⟨_, rfl⟩
            have lt2 : t2.length ≤ 20 := by
              rw [ht2]
              rw [List.length_drop]
              omega
            obtain ⟨zt2, et2⟩ : ∃ z, (ByteArray.mk t2.toArray).size = z := ⟨_, rfl⟩
            have st2 : zt2 ≤ 20 := by rw [← et2, sz_mk]; exact lt2
            rw [← ht1] at hS1 HL
            rw [← ht2] at hS2 HL
            obtain ⟨D1, hD1⟩ : ∃ F : List UInt8, F = t1 ++ [46] := ⟨_, rfl⟩
            have cD1 : ByteArray.mk t1.toArray ++ ByteArray.mk #[46] = ByteArray.mk D1.toArray := by rw [hD1]; exact catB (t1) ([46])
            obtain ⟨zD1, eD1⟩ : ∃ z, (ByteArray.mk D1.toArray).size = z := ⟨_, rfl⟩
            have lD1 : D1.length ≤ 21 := by
              rw [hD1, List.length_append]
              have := lt1
              try simp only [List.length_cons, List.length_nil]
              omega
            have sD1 : zD1 ≤ 21 := by rw [← eD1, sz_mk]; exact lD1
            have HD1 : Hid (D1 = t1 ++ [46]) := hD1
            clear hD1
            obtain ⟨D2, hD2⟩ : ∃ F : List UInt8, F = D1 ++ t2 := ⟨_, rfl⟩
            have cD2 : ByteArray.mk D1.toArray ++ ByteArray.mk t2.toArray = ByteArray.mk D2.toArray := by rw [hD2]; exact catB (D1) (t2)
            obtain ⟨zD2, eD2⟩ : ∃ z, (ByteArray.mk D2.toArray).size = z := ⟨_, rfl⟩
            have lD2 : D2.length ≤ 41 := by
              rw [hD2, List.length_append]
              have := lD1
              have := lt2
              try simp only [List.length_cons, List.length_nil]
              omega
            have sD2 : zD2 ≤ 41 := by rw [← eD2, sz_mk]; exact lD2
            have HD2 : Hid (D2 = D1 ++ t2) := hD2
            clear hD2
            obtain ⟨F1, hF1⟩ : ∃ F : List UInt8, F = s ++ D2 := ⟨_, rfl⟩
            have cF1 : ByteArray.mk s.toArray ++ ByteArray.mk D2.toArray = ByteArray.mk F1.toArray := by rw [hF1]; exact catB (s) (D2)
            obtain ⟨zF1, eF1⟩ : ∃ z, (ByteArray.mk F1.toArray).size = z := ⟨_, rfl⟩
            have lF1 : F1.length ≤ 50 := by
              rw [hF1, List.length_append]
              have := ls
              have := lD2
              try simp only [List.length_cons, List.length_nil]
              omega
            have sF1 : zF1 ≤ 50 := by rw [← eF1, sz_mk]; exact lF1
            have HF1 : Hid (F1 = s ++ D2) := hF1
            clear hF1
            obtain ⟨F2, hF2⟩ : ∃ F : List UInt8, F = F1 ++ [101, 45] := ⟨_, rfl⟩
            have cF2 : ByteArray.mk F1.toArray ++ ByteArray.mk #[101, 45] = ByteArray.mk F2.toArray := by rw [hF2]; exact catB (F1) ([101, 45])
            obtain ⟨zF2, eF2⟩ : ∃ z, (ByteArray.mk F2.toArray).size = z := ⟨_, rfl⟩
            have lF2 : F2.length ≤ 52 := by
              rw [hF2, List.length_append]
              have := lF1
              try simp only [List.length_cons, List.length_nil]
              omega
            have sF2 : zF2 ≤ 52 := by rw [← eF2, sz_mk]; exact lF2
            have HF2 : Hid (F2 = F1 ++ [101, 45]) := hF2
            clear hF2
            obtain ⟨F3, hF3⟩ : ∃ F : List UInt8, F = F2 ++ nm := ⟨_, rfl⟩
            have cF3 : ByteArray.mk F2.toArray ++ ByteArray.mk nm.toArray = ByteArray.mk F3.toArray := by rw [hF3]; exact catB (F2) (nm)
            obtain ⟨zF3, eF3⟩ : ∃ z, (ByteArray.mk F3.toArray).size = z := ⟨_, rfl⟩
            have lF3 : F3.length ≤ 60 := by
              rw [hF3, List.length_append]
              have := lF2
              have := lnm
              try simp only [List.length_cons, List.length_nil]
              omega
            have sF3 : zF3 ≤ 60 := by rw [← eF3, sz_mk]; exact lF3
            have HF3 : Hid (F3 = F2 ++ nm) := hF3
            clear hF3
            have HE : Hid (s ++ R = F3) := by unfold Hid; rw [HF3.out, HF2.out, HF1.out, HD2.out, HD1.out, HL]; simp
            clear HL c1 c2 c3 big c5 hnm hws hpp hy ht1 ht2 hy2
            go_upto_region 14 with fail
            go_region_with fail
            all_goals (go_wp2_with fail; refine (hNb _).mono ?_; rintro e w3 ⟨rfl, k3⟩; go_wp2_with fail; go_ret; exact ⟨by rw [HE.out]; rfl, by first | exact KW.out.trans k3 | exact (KW.out.trans ((Keep.refl _).drewN _)).trans k3 | exact (KW.out.trans (Keep.refl _).drew).trans k3⟩)
          · have q6 : decide (1 < n) = false := decide_eq_false c5
            have q6' : decide ((1 : Int) < (n : Int)) = false := decide_eq_false (by omega)
            rw [if_neg c5] at HL
            obtain ⟨F1, hF1⟩ : ∃ F : List UInt8, F = s ++ d := ⟨_, rfl⟩
            have cF1 : ByteArray.mk s.toArray ++ ByteArray.mk d.toArray = ByteArray.mk F1.toArray := by rw [hF1]; exact catB (s) (d)
            obtain ⟨zF1, eF1⟩ : ∃ z, (ByteArray.mk F1.toArray).size = z := ⟨_, rfl⟩
            have lF1 : F1.length ≤ 50 := by
              rw [hF1, List.length_append]
              have := ls
              have := ld
              try simp only [List.length_cons, List.length_nil]
              omega
            have sF1 : zF1 ≤ 50 := by rw [← eF1, sz_mk]; exact lF1
            have HF1 : Hid (F1 = s ++ d) := hF1
            clear hF1
            obtain ⟨F2, hF2⟩ : ∃ F : List UInt8, F = F1 ++ [101, 45] := ⟨_, rfl⟩
            have cF2 : ByteArray.mk F1.toArray ++ ByteArray.mk #[101, 45] = ByteArray.mk F2.toArray := by rw [hF2]; exact catB (F1) ([101, 45])
            obtain ⟨zF2, eF2⟩ : ∃ z, (ByteArray.mk F2.toArray).size = z := ⟨_, rfl⟩
            have lF2 : F2.length ≤ 52 := by
              rw [hF2, List.length_append]
              have := lF1
              try simp only [List.length_cons, List.length_nil]
              omega
            have sF2 : zF2 ≤ 52 := by rw [← eF2, sz_mk]; exact lF2
            have HF2 : Hid (F2 = F1 ++ [101, 45]) := hF2
            clear hF2
            obtain ⟨F3, hF3⟩ : ∃ F : List UInt8, F = F2 ++ nm := ⟨_, rfl⟩
            have cF3 : ByteArray.mk F2.toArray ++ ByteArray.mk nm.toArray = ByteArray.mk F3.toArray := by rw [hF3]; exact catB (F2) (nm)
            obtain ⟨zF3, eF3⟩ : ∃ z, (ByteArray.mk F3.toArray).size = z := ⟨_, rfl⟩
            have lF3 : F3.length ≤ 60 := by
              rw [hF3, List.length_append]
              have := lF2
              have := lnm
              try simp only [List.length_cons, List.length_nil]
              omega
            have sF3 : zF3 ≤ 60 := by rw [← eF3, sz_mk]; exact lF3
            have HF3 : Hid (F3 = F2 ++ nm) := hF3
            clear hF3
            have HE : Hid (s ++ R = F3) := by unfold Hid; rw [HF3.out, HF2.out, HF1.out, HL]; simp
            clear HL c1 c2 c3 big c5 hnm hws hpp hy hy2
            go_wp2_with fail
            refine (hNb _).mono ?_
            rintro e w3 ⟨rfl, k3⟩
            go_wp2_with fail
            go_ret
            exact ⟨by rw [HE.out]; rfl, KW.out.trans k3⟩
end Go.Proofs.YtpdjpjkieafnbaaGreatDoor.Li
set_option linter.unusedVariables false
set_option linter.unusedSimpArgs false
namespace Go.Proofs.YtpdjpjkieafnbaaGreatDoor.Li
open Go.RowKit Lb
set_option maxRecDepth 100000 in
set_option maxHeartbeats 1000000 in
theorem exact_odd (hPr : PrD) (m : Nat) (e : Int) (w : World) (hm0 : 0 < m) (hm : m < 9007199254740992) (he : -1074 ≤ e ∧ e ≤ 971) (hT : Bi.Tab w) :
    Calls Tryz.prog 65 #[.int .u64 (m : Nat), .int .i64 e] w fun r w' => ∃ (m' : Nat) (e' : Int) (j : Nat), m = m' * 2 ^ j ∧ e' = e + (j : Int) ∧ (-1074 ≤ e' ∧ e' ≤ 971) ∧ (e' < 0 → m' % 2 = 1) ∧ r = .returned (.string ⟨(exD m' e').toArray⟩) ∧ Keep w w' := by
  have hZ := Bi.tz_any m (by omega) (by omega) w hT
  obtain ⟨K, hK⟩ : ∃ K, Lib.ctz 64 m = K := ⟨_, rfl⟩
  rw [hK] at hZ
  have hwe : IntKind.i64.wrap (-e) = -e := by rw [IntWalk.i64_left]; exact IntWalk.wrap64_in _ (by omega)
  go_enter Tryz.func65, Tryz.ntmps65
  go_upto_if 17 with (go_at_call 105; refine hZ.mono ?_; rintro r w1 ⟨rfl, hw1⟩; rw [hw1]; clear hw1 w1)
  have hspec : ∃ q, m = (2 * q + 1) * 2 ^ K ∧ K < 64 := by
    obtain ⟨q, h1, h2⟩ := Lib.ctzFrom_spec 64 m (by omega) (by omega)
    have e1 : Lib.ctz 64 m = Lib.ctzFrom 64 m := by unfold Lib.ctz; rw [if_neg (by omega)]
    rw [e1] at hK
    rw [hK] at h1 h2
    exact ⟨q, by rw [Nat.mul_comm]; exact h1, h2⟩
  clear hK hZ
  have HE : Hid (-1074 ≤ e ∧ e ≤ 971) := he
  have HM : Hid (0 < m ∧ m < 9007199254740992) := ⟨hm0, hm⟩
  go_cut [0, 1, 5, 15, 16] from 17 to 23 (fun s0 s1 s5 s15 s16 wx => w = wx ∧ ∃ (m1 : Nat) (e1 : Int), s0 = .int .u64 (m1 : Nat) ∧ s1 = .int .i64 e1 ∧ Hid (∃ j : Nat, m = m1 * 2 ^ j ∧ e1 = e + (j : Int) ∧ (j = 0 ∨ e1 ≤ 0) ∧ (e1 < 0 → m1 % 2 = 1)))
  case first =>
    by_cases hp : 0 < min (K : Int) (-e)
    · obtain ⟨n, hn⟩ : ∃ n : Nat, min (K : Int) (-e) = (n : Int) := ⟨(min (K : Int) (-e)).toNat, by omega⟩
      have hnK : n ≤ K := by omega
      have hne : (n : Int) ≤ -e := by omega
      have hn0 : (0 : Int) < (n : Int) := by omega
      obtain ⟨q, hq, hK64⟩ := hspec
      have hdiv : m = (m / 2 ^ n) * 2 ^ n := by
        have : 2 ^ n ∣ m := by
          rw [hq]
          exact Nat.dvd_trans (Nat.pow_dvd_pow 2 hnK) (Nat.dvd_mul_left _ _)
        exact (Nat.div_mul_cancel this).symm
      have hwn : IntKind.i64.wrap (e + (n : Int)) = e + (n : Int) := by rw [IntWalk.i64_left]; exact IntWalk.wrap64_in _ (by omega)
      have HD : Hid (m = (m / 2 ^ n) * 2 ^ n ∧ e + (n : Int) ≤ 0 ∧ (e + (n : Int) < 0 → (m / 2 ^ n) % 2 = 1)) := ⟨hdiv, by omega, fun hlt => by
        have hnk : n = K := by omega
        rw [hnk, hq, Nat.mul_div_cancel _ (Nat.two_pow_pos K)]
        omega⟩
      rw [hn]
      clear hdiv hq hp hn
      go_wp2_with fail
      go_meet
      case rel => exact ⟨rfl, m / 2 ^ n, e + (n : Int), by simp, rfl, n, HD.out.1, rfl, .inr HD.out.2.1, HD.out.2.2⟩
    · have HD : Hid (m = m * 2 ^ 0) := by simp [Hid]
      have HO : Hid (e < 0 → m % 2 = 1) := fun hlt => by
        obtain ⟨q, hq, -⟩ := hspec
        have hK0 : K = 0 := by omega
        rw [hK0, Nat.pow_zero, Nat.mul_one] at hq
        omega
      have hp2 : decide (0 < min (K : Int) (-e)) = false := by simpa using hp
      clear hspec
      go_wp2_with fail
      go_meet
      case rel => exact ⟨rfl, m, e, rfl, rfl, 0, HD.out, by simp, .inl rfl, HO.out⟩
  case rest =>
    obtain ⟨rfl, m1, e1, rfl, rfl, HJ⟩ := hcut
    have hm1 : 0 < m1 ∧ m1 < 9007199254740992 := by
      obtain ⟨j, h1, -⟩ := HJ.out
      have h2 := HM.out
      have h3 : 0 < 2 ^ j := Nat.two_pow_pos j
      refine ⟨Nat.pos_of_ne_zero (fun q => by rw [q] at h1; omega), ?_⟩
      have : m1 * 1 ≤ m1 * 2 ^ j := Nat.mul_le_mul_left _ h3
      omega
    have he1 : -1074 ≤ e1 ∧ e1 ≤ 971 := by
      obtain ⟨j, -, h1, h2, -⟩ := HJ.out
      have := HE.out
      omega
    have HE1 : Hid (-1074 ≤ e1 ∧ e1 ≤ 971) := he1
    have hF := fun wx => From_any m1 wx (by omega)
    by_cases hpos : 0 ≤ e1
    · obtain ⟨k, hk⟩ : ∃ k : Nat, e1 = (k : Int) := ⟨e1.toNat, by omega⟩
      have hkb : k ≤ 971 := by omega
      have hge : (0 : Int) ≤ (k : Int) := by omega
      rw [hk]
      have HKE : Hid (e1 = (k : Int)) := hk
      clear hk hpos he1
      go_wp2_with fail
      refine (hF _).mono ?_
      rintro r w3 ⟨v3, l3, rfl, o3, m3, p3, e3, k3⟩
      obtain ⟨a3, c3, rfl, hc3, r3⟩ := o3.shape
      have j3 : l3.length ≤ 2 := len_le_pow p3 2 (by rw [e3]; show m1 < 18446744073709551616; omega)
      go_wp2_with fail
      refine (Up_any a3 c3 k l3 w3 hc3 (by omega) (by omega) r3 m3).mono ?_
      rintro r w4 ⟨v4, rfl, n4, k4⟩
      obtain ⟨a4, c4, l4, rfl, hc4, r4, m4, p4, e4, -⟩ := n4.shape
      have j4 : l4.length ≤ 33 := len_le_pow p4 33 (by
        rw [e4, e3]
        have q1 := two_limbs k 31 (by omega)
        have q2 : m1 * 2 ^ k ≤ m1 * 4294967296 ^ 31 := Nat.mul_le_mul_left _ q1
        have q3 : m1 * 4294967296 ^ 31 < 4294967296 ^ 2 * 4294967296 ^ 31 := Nat.mul_lt_mul_of_pos_right (by show m1 < 18446744073709551616; omega) (Nat.pow_pos (by omega))
        exact Nat.lt_of_le_of_lt q2 q3)
      go_wp2_with fail
      refine (hPr a4 c4 l4 w4 hc4 (by omega) r4 m4).mono ?_
      rintro r w5 ⟨rfl, k5⟩
      go_wp2_with fail
      go_ret
      obtain ⟨j, h1, h2, h3, h4⟩ := HJ.out
      refine ⟨m1, e1, j, h1, h2, HE1.out, h4, ?_, (k3.trans k4).trans k5⟩
      unfold exD
      rw [HKE.out, if_pos (by omega)]
      rfl
    · obtain ⟨k, hk⟩ : ∃ k : Nat, e1 = -(k : Int) := ⟨(-e1).toNat, by omega⟩
      have hkb : 0 < k ∧ k ≤ 1074 := by omega
      have hge : ¬ (0 : Int) ≤ -(k : Int) := by omega
      rw [hk]
      have HKE : Hid (e1 = -(k : Int)) := hk
      clear hk hpos he1
      have hF5 := fun wx => From_any 5 wx (by omega)
      have hwk : IntKind.i64.wrap (-(-(k : Int))) = (k : Int) := by rw [Int.neg_neg, IntWalk.i64_left]; exact IntWalk.wrap64_in _ (by omega)
      go_wp2_with fail
      refine (hF5 _).mono ?_
      rintro r w3 ⟨v3, l3, rfl, o3, m3, p3, e3, k3⟩
      obtain ⟨a3, c3, rfl, hc3, r3⟩ := o3.shape
      have j3 : l3.length ≤ 1 := len_le_pow p3 1 (by rw [e3]; decide)
      go_wp2_with fail
      have hpE : powE l3 (k : Int) = 0 := by
        unfold powE
        have q := lenB_max m3
        have q2 : lenB l3 * k ≤ 32 * k := Nat.mul_le_mul_right k (by omega)
        rw [if_neg (by omega), if_neg (by
          have e : ((lenB l3 : Int) * (k : Int)) = ((lenB l3 * k : Nat) : Int) := by simp
          rw [e]
          omega)]
      have hpV : powV l3 (k : Int) = 5 ^ k := by
        unfold powV
        have q := lenB_max m3
        have q2 : lenB l3 * k ≤ 32 * k := Nat.mul_le_mul_right k (by omega)
        rw [if_neg (by omega), if_neg (by
          have e : ((lenB l3 : Int) * (k : Int)) = ((lenB l3 * k : Nat) : Int) := by simp
          rw [e]
          omega), e3]
        rfl
      have cP := Pow_any a3 c3 (k : Int) l3 w3 hc3 (by omega) r3 m3
      rw [hpE, hpV] at cP
      refine cP.mono ?_
      rintro r w4 ⟨a4, c4, l4, rfl, hc4, r4, m4, p4, e4, k4⟩
      have j4 : l4.length ≤ 102 := len_le_pow p4 102 (by
        rw [e4]
        have q1 := two_limbs (3 * k) 101 (by omega)
        exact Nat.lt_of_le_of_lt (Nat.le_trans (five_two k) q1) (Nat.pow_lt_pow_right (by omega) (by omega)))
      clear cP hpE hpV
      go_wp2_with fail
      refine (hF _).mono ?_
      rintro r w5 ⟨v5, l5, rfl, o5, m5, p5, e5, k5⟩
      obtain ⟨a5, c5, rfl, hc5, r5⟩ := o5.shape
      have j5 : l5.length ≤ 2 := len_le_pow p5 2 (by rw [e5]; show m1 < 18446744073709551616; omega)
      go_wp2_with fail
      refine (Mul_any a5 a4 c5 c4 l5 l4 w5 hc5 hc4 (by omega) (by omega) r5 (r4.keep k5) m5 m4).mono ?_
      rintro r w6 ⟨v6, rfl, n6, k6⟩
      obtain ⟨a6, c6, l6, rfl, hc6, r6, m6, p6, e6, -⟩ := n6.natR.shape
      have j6 : l6.length ≤ 104 := len_le_pow p6 104 (by
        rw [e6]
        have q1 := val_lt m5
        have q2 := val_lt m4
        have q3 : (4294967296 : Nat) ^ l5.length ≤ 4294967296 ^ 2 := Nat.pow_le_pow_right (by omega) j5
        have q4 : (4294967296 : Nat) ^ l4.length ≤ 4294967296 ^ 102 := Nat.pow_le_pow_right (by omega) j4
        have q5 : val l5 * val l4 < 4294967296 ^ 2 * 4294967296 ^ 102 := Nat.mul_lt_mul_of_lt_of_le (Nat.lt_of_lt_of_le q1 q3) (Nat.le_of_lt (Nat.lt_of_lt_of_le q2 q4)) (Nat.pow_pos (by omega))
        exact q5)
      rw [e5, e4] at e6
      have cQ := hPr a6 c6 l6 w6 hc6 (by omega) r6 m6
      rw [e6] at cQ
      go_wp2_with fail
      refine cQ.mono ?_
      rintro r w7 ⟨rfl, k7⟩
      have K7 : Hid (Keep w w7) := (((k3.trans k4).trans k5).trans k6).trans k7
      have hdl : (dD (m1 * 5 ^ k)).length ≤ 1100 := by
        obtain ⟨Z, hZ⟩ : ∃ Z, Z = 1099 := ⟨_, rfl⟩
        rw [show 1100 = Z + 1 by omega]
        apply dD_len Z
        have q1 : (5 : Nat) ^ k ≤ 10 ^ k := Nat.pow_le_pow_left (by omega) k
        have q2 : m1 * 5 ^ k ≤ m1 * 10 ^ k := Nat.mul_le_mul_left _ q1
        have q3 : m1 * 10 ^ k < 10 ^ 16 * 10 ^ k := Nat.mul_lt_mul_of_pos_right (by show m1 < 10000000000000000; omega) (Nat.pow_pos (by omega))
        rw [← Nat.pow_add] at q3
        exact Nat.lt_of_lt_of_le (Nat.lt_of_le_of_lt q2 q3) (Nat.pow_le_pow_right (by omega) (by omega))
      obtain ⟨d, hd⟩ : ∃ d, dD (m1 * 5 ^ k) = d := ⟨_, rfl⟩
      rw [hd] at hdl
      rw [hd]
      have HDD : Hid (dD (m1 * 5 ^ k) = d) := hd
      clear hd cQ k3 k4 k5 k6 k7 r3 r4 r5 r6 e6 e5 e4 e3
      obtain ⟨L, hL⟩ : ∃ L, d.length = L := ⟨_, rfl⟩
      rw [hL] at hdl
      have s1 : (ByteArray.mk d.toArray).size = L := by rw [sz_mk, hL]
      obtain ⟨z, hz⟩ : ∃ z, k + 1 - L = z := ⟨_, rfl⟩
      have hw48 : IntKind.i64.wrap (1 - -(k : Int)) = (k : Int) + 1 := by rw [show (1 : Int) - -(k : Int) = (k : Int) + 1 by omega, IntWalk.i64_left]; exact IntWalk.wrap64_in _ (by omega)
      have hw48b : IntKind.i64.wrap (1 + (k : Int)) = (k : Int) + 1 := by rw [show (1 : Int) + (k : Int) = (k : Int) + 1 by omega, IntWalk.i64_left]; exact IntWalk.wrap64_in _ (by omega)
      have hw51 : IntKind.i64.wrap ((k : Int) + 1 - (L : Int)) = (k : Int) + 1 - (L : Int) := by rw [IntWalk.i64_left]; exact IntWalk.wrap64_in _ (by omega)
      have hmax : max (0 : Int) ((k : Int) + 1 - (L : Int)) = (z : Int) := by omega
      have hRp := fun wx => rp_of z (by omega) wx
      have hcat : (ByteArray.mk (List.replicate z (48 : UInt8)).toArray) ++ (ByteArray.mk d.toArray) = ByteArray.mk (exZ k d).toArray := by
        rw [catB]
        unfold exZ
        rw [hL, hz]
      obtain ⟨R, hR⟩ : ∃ R, List.replicate z (48 : UInt8) = R := ⟨_, rfl⟩
      rw [hR] at hRp hcat
      have s3 : (ByteArray.mk R.toArray).size = z := by rw [sz_mk, ← hR, List.length_replicate]
      clear hR
      have hZl := exZ_len k d
      have hZl2 : (exZ k d).length ≤ 3000 := by
        unfold exZ
        rw [List.length_append, List.length_replicate, hL]
        omega
      obtain ⟨D, hD⟩ : ∃ D, exZ k d = D := ⟨_, rfl⟩
      rw [hD] at hcat hZl hZl2
      have HD : Hid (exZ k d = D) := hD
      obtain ⟨M, hM⟩ : ∃ M, D.length = M := ⟨_, rfl⟩
      rw [hM] at hZl hZl2
      have s2 : (ByteArray.mk D.toArray).size = M := by rw [sz_mk, hM]
      obtain ⟨i, hi⟩ : ∃ i, M - k = i := ⟨_, rfl⟩
      have hw60 : IntKind.i64.wrap ((M : Int) + -(k : Int)) = (i : Int) := by rw [show (M : Int) + -(k : Int) = (i : Int) by omega, IntWalk.i64_left]; exact IntWalk.wrap64_in _ (by omega)
      have hu : ∀ wx, (Instr.slice 9 (.string ⟨D.toArray⟩) none (some (.int .i64 (i : Int))) none).run Tryz.prog wx = .ok (.string ⟨(D.take i).toArray⟩) wx := fun wx => run_upto D i (by omega) wx
      have hf : ∀ wx, (Instr.slice 9 (.string ⟨D.toArray⟩) (some (.int .i64 (i : Int))) none none).run Tryz.prog wx = .ok (.string ⟨(D.drop i).toArray⟩) wx := fun wx => run_from D i (by omega) wx
      have HI : Hid (M - k = i ∧ D.length = M) := ⟨hi, hM⟩
      obtain ⟨TA, hTA⟩ : ∃ x, D.take i = x := ⟨_, rfl⟩
      obtain ⟨TB, hTB⟩ : ∃ x, D.drop i = x := ⟨_, rfl⟩
      have hA : (ByteArray.mk TA.toArray).size ≤ 3000 := by rw [sz_mk, ← hTA, List.length_take, hM]; omega
      have hB : (ByteArray.mk TB.toArray).size ≤ 3000 := by rw [sz_mk, ← hTB, List.length_drop, hM]; omega
      have hAB : (ByteArray.mk TA.toArray ++ (⟨#[46]⟩ : ByteArray)).size ≤ 3001 := by rw [ByteArray.size_append, show (⟨#[46]⟩ : ByteArray).size = 1 from rfl]; omega
      have hABC : (ByteArray.mk TA.toArray ++ (⟨#[46]⟩ : ByteArray) ++ ByteArray.mk TB.toArray).size ≤ 6001 := by rw [ByteArray.size_append]; omega
      have hAl : TA.length ≤ 3000 := by rw [← hTA, List.length_take, hM]; omega
      have hBl : TB.length ≤ 3000 := by rw [← hTB, List.length_drop, hM]; omega
      have hiw : IntKind.i64.wrap (i : Int) = (i : Int) := by rw [IntWalk.i64_left]; exact IntWalk.wrap64_in _ (by omega)
      have him : (M : Int) + -(k : Int) = (i : Int) := by omega
      have hil : i ≤ 3000 := by omega
      rw [hTA] at hu
      rw [hTB] at hf
      have HT : Hid (D.take i = TA ∧ D.drop i = TB) := ⟨hTA, hTB⟩
      clear hTA hTB
      clear hz hL hD hM hi hZl
      go_wp2_with fail
      refine (hRp _).mono ?_
      rintro r w8 ⟨rfl, k8⟩
      have K8 : Hid (Keep w w8) := K7.out.trans k8
      clear hRp k8
      go_wp2_with fail
      go_region_with (fail)
      go_simp
      go_wp2_with fail
      go_ret
      obtain ⟨j, h1, h2, h3, h4⟩ := HJ.out
      refine ⟨m1, e1, j, h1, h2, HE1.out, h4, ?_, by first | exact K8.out | exact K8.out.drew | exact K8.out.drewN _⟩
      unfold exD
      rw [HKE.out, if_neg (by omega), show (-(-(k : Int))).toNat = k by omega, HDD.out, HD.out, HI.out.2, HI.out.1, HT.out.1, HT.out.2]
      have q : ByteArray.mk TA.toArray ++ (⟨#[46]⟩ : ByteArray) ++ ByteArray.mk TB.toArray = ⟨(TA ++ 46 :: TB).toArray⟩ := by
        rw [show (⟨#[46]⟩ : ByteArray) = ⟨([46] : List UInt8).toArray⟩ from rfl, catB, catB]
        simp
      rw [← q]
      rfl
/-- The exact text of a number that has digits. -/
theorem Exact_odd (b : Nat) (hb : b < 18446744073709551616) (hk : pKind b = 1 ∨ pKind b = 2) (hM : 0 < pM b) (w : World) (hT : Bi.Tab w) :
    Calls Tryz.prog 23 #[.float .f64 b] w fun r w' => ∃ (m' : Nat) (e' : Int) (j : Nat), pM b = m' * 2 ^ j ∧ e' = pE b + (j : Int) ∧ (exD m' e').length ≤ 3000 ∧ (e' < 0 → m' % 2 = 1) ∧ r = .returned (.string ⟨(sgS (pNeg b) (exD m' e')).toArray⟩) ∧ Keep w w' := by
  have hP := Parts_any b hb w
  have hMl := pM_lt b
  have hEi := pE_in b
  have hN : ∀ wx, Calls Tryz.prog 63 #[.int .u8 (pKind b : Nat)] wx fun e w' => e = .returned (.string ⟨#[]⟩) ∧ wx = w' := fun wx => by
    have q := named_any (pKind b) (by omega) wx
    have e : nmS (pKind b) = [] := by unfold nmS; rw [if_neg (by omega), if_neg (by omega), if_neg (by omega)]
    rw [e] at q
    exact q
  obtain ⟨k, hk2⟩ : ∃ k, pKind b = k := ⟨_, rfl⟩
  rw [hk2] at hP hN hk
  have hk4 : k < 4 := by omega
  generalize pM b = m at *
  generalize pE b = e at *
  generalize pNeg b = ng at *
  clear hk2 hk
  go_enter Tryz.func23, Tryz.ntmps23
  go_wp2_with fail
  refine hP.mono ?_
  rintro r w1 ⟨rfl, k1⟩
  go_wp2_with fail
  refine (hN _).mono ?_
  rintro r wz ⟨rfl, hz⟩
  subst hz
  go_wp2_with fail
  refine (exact_odd prD m e w1 hM hMl hEi (hT.keep k1)).mono ?_
  rintro r w2 ⟨m', e', j, h1, h2, h3, h4, rfl, k2⟩
  have hm' : m' < 9007199254740992 := by
    have h5 : 0 < 2 ^ j := Nat.two_pow_pos j
    have : m' * 1 ≤ m' * 2 ^ j := Nat.mul_le_mul_left _ h5
    omega
  have hlen : (exD m' e').length ≤ 3000 := exD_len m' e' hm' h3
  have cS := signedF_any ng k (exD m' e') hk4 (by omega) w2
  have HL : Hid ((exD m' e').length ≤ 3000) := hlen
  replace h1 : Hid _ := h1
  replace h4 : Hid _ := h4
  replace h2 : Hid _ := h2
  obtain ⟨X, hX⟩ : ∃ X, exD m' e' = X := ⟨_, rfl⟩
  obtain ⟨Y, hY⟩ : ∃ Y, sgS ng X = Y := ⟨_, rfl⟩
  rw [hX] at cS
  rw [hX]
  rw [hY] at cS
  have HX : Hid (exD m' e' = X ∧ sgS ng X = Y) := ⟨hX, hY⟩
  clear hlen hX hY h3
  go_wp2_with fail
  refine cS.mono ?_
  rintro r wz ⟨rfl, hz⟩
  subst hz
  go_wp2_with fail
  go_ret
  exact ⟨m', e', j, h1.out, h2.out, HL.out, h4.out, by rw [HX.out.1, HX.out.2]; rfl, k1.trans k2⟩
end Go.Proofs.YtpdjpjkieafnbaaGreatDoor.Li
