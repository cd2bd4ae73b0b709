import Derived.Test.YtbjidpooociamaaDoorE7
namespace Go.Proofs.YtbjidpooociamaaDoor
open Go.RowKit Lb
set_option maxRecDepth 100000 in
set_option maxHeartbeats 800000 in
theorem rPow_any (a : Option Addr) (ca : Nat) (n : Int) (la : List Nat) (w : World) (hca : la.length ≤ ca) (hla : la.length ≤ 1048576) (hra : Rd w a la) (hma : Lim la) :
    Calls Tryd.prog 42 #[.slice a la.length ca, .int .i64 n] w fun e w' => Two w w' e (powV la n) (powE la n) := by
  by_cases hout : n < 0 ∨ 65536 < n
  · have e1 : powE la n = 2 := by unfold powE; rw [if_pos hout]
    have e2 : powV la n = 0 := by unfold powV; rw [if_pos hout]
    rw [e1, e2]
    clear e1 e2
    rcases hout with h | h
    all_goals
      go_enter Tryd.func42, Tryd.ntmps42
      go_wp2
      go_ret2
      exact Two.nought (Keep.refl _)
  · obtain ⟨m, rfl⟩ : ∃ m : Nat, n = (m : Int) := ⟨n.toNat, by omega⟩
    have hm : m ≤ 65536 := by omega
    have hni : ¬ (m : Int) < 0 := by omega
    have hni2 : ¬ (65536 : Int) < (m : Int) := by omega
    have hLen := fun wx (hk : Keep w wx) => rLen_any a ca la wx hca (by omega) (hra.keep hk) hma
    have hLb := lenB_max hma
    have hpb : lenB la * m ≤ 33554432 * 65536 := Nat.mul_le_mul (by omega) hm
    by_cases hmany : 65536 < lenB la * m
    · have hmi : 65536 < (lenB la : Int) * (m : Int) := by rw [← Int.natCast_mul]; omega
      have e1 : powE la m = 3 := by unfold powE; rw [if_neg hout, if_pos hmi]
      have e2 : powV la m = 0 := by unfold powV; rw [if_neg hout, if_pos hmi]
      rw [e1, e2]
      clear e1 e2 hmi
      obtain ⟨P, hP⟩ : ∃ P, lenB la * m = P := ⟨_, rfl⟩
      have hPi : (lenB la : Int) * (m : Int) = (P : Int) := by rw [← Int.natCast_mul, hP]
      rw [hP] at hpb hmany
      clear hP
      generalize lenB la = Lb at *
      go_enter Tryd.func42, Tryd.ntmps42
      go_wp2_with fail
      refine (hLen _ (Keep.refl _)).mono ?_
      rintro e w1 ⟨rfl, hk1⟩
      go_wp2_with fail
      go_ret2
      exact Two.nought hk1
    · have hmi : ¬ 65536 < (lenB la : Int) * (m : Int) := by rw [← Int.natCast_mul]; omega
      have e3 : powE la m = 0 := by unfold powE; rw [if_neg hout, if_neg hmi]
      have e2 : powV la m = val la ^ m := by unfold powV; rw [if_neg hout, if_neg hmi]; simp
      rw [e3, e2]
      clear e3 e2 hmi
      obtain ⟨K, hK, hK2⟩ : ∃ K, 65536 < 32 * K ∧ K ≤ 4096 := ⟨2049, by omega, by omega⟩
      have HR : Hid (∀ j, j ≤ m → val la ^ j < 4294967296 ^ K) := pow_room la hma m K hK (by omega)
      have HL : Hid (val la < 2 ^ lenB la) := val_lt_len la hma
      have hN := fun wx (hk : Keep w wx) => rNorm_any a ca la wx hca (by omega) (hra.keep hk)
      have hXm := Lim_take hma (nl la)
      have hXn := Nrm_take la
      have HX : Hid (val (la.take (nl la)) = val la) := val_take_nl la
      generalize la.take (nl la) = X at hN hXm hXn HX
      have hMul := fun wx (hk : Keep w wx) b cb lb (hlb : lb.length ≤ K) (hrb : Rd wx b lb) (hmb : Lim lb) => rMul_any b a cb ca lb la wx (by omega) (by omega) (by omega) hrb (hra.keep hk) hmb hma
      obtain ⟨P, hP⟩ : ∃ P, lenB la * m = P := ⟨_, rfl⟩
      have hPi : (lenB la : Int) * (m : Int) = (P : Int) := by rw [← Int.natCast_mul, hP]
      rw [hP] at hpb hmany
      clear hP
      generalize lenB la = Lb at *
      go_enter Tryd.func42, Tryd.ntmps42
      go_wp2_with fail
      refine (hLen _ (Keep.refl _)).mono ?_
      rintro e w1 ⟨rfl, hk1⟩
      go_wp2_with fail
      refine (rFrom_any 1 w1 (by omega)).mono ?_
      rintro e w2 ⟨v2, l2, rfl, o2, m2, p2, e2, hk2⟩
      have hk02 := hk1.trans hk2
      obtain ⟨a2, c2, rfl, hc2, r2⟩ := o2.shape
      clear hPi
      go_wp2_with fail
      refine (hLen _ hk02).mono ?_
      rintro e w3 ⟨rfl, hk3⟩
      have hk03 := hk02.trans hk3
      have E2 : Hid (val l2 = 1) := e2
      clear e2
      have O2 := o2.keep hk3
      clear o2 r2
      by_cases hs : Lb < 2 ∧ 0 < m
      · obtain ⟨hs1, hs2⟩ := hs
        go_wp2_with fail
        refine (hN _ hk03).mono ?_
        rintro e w4 ⟨v4, rfl, o4, hk4⟩
        obtain ⟨a4, c4, rfl, hc4, r4⟩ := o4.shape
        go_wp2_with fail
        go_ret2
        refine ⟨_, _, _, rfl, hc4, r4, hXm, hXn, ?_, hk03.trans hk4⟩
        rw [HX.out]
        have hv2 : val la < 2 := Nat.lt_of_lt_of_le HL.out (Nat.le_trans (Nat.pow_le_pow_right (by omega) (show Lb ≤ 1 by omega)) (by decide))
        rcases Nat.lt_or_ge 0 (val la) with h | h
        · rw [show val la = 1 by omega, Nat.one_pow]
        · rw [show val la = 0 by omega, Nat.zero_pow hs2]
      · by_cases hd : Lb < 2
        · have hm0 : m = 0 := by omega
          subst hm0
          clear hs
          go_wp2_with fail
          go_loopw [6, 7] (fun v i wr => v = .slice a2 l2.length c2 ∧ i = .int .i64 0 ∧ wr = w3) (fun _ _ _ => 0)
          case atStart => exact ⟨rfl, rfl, rfl⟩
          case round =>
            obtain ⟨rfl, rfl, rfl⟩ := hrel
            go_wp2_with fail
            go_ret2
            obtain ⟨a5, c5, e5, hc5, r5⟩ := O2.shape
            simp only [Value.slice.injEq] at e5
            obtain ⟨rfl, -, rfl⟩ := e5
            exact ⟨_, _, l2, rfl, hc5, r5, m2, p2, by rw [E2.out]; simp, hk03⟩
        · have hdf : decide ((Lb : Int) < 2) = false := by simp; omega
          clear hs hd
          go_wp2_with fail
          go_loopw [6, 7] (fun v i wr => ∃ (k : Nat) (l : List Nat), k ≤ m ∧ i = .int .i64 k ∧ Own w.heap.size wr v l ∧ Lim l ∧ Nrm l ∧ Hid (val l = val la ^ k) ∧ Keep w wr) (fun _ i _ => m - (intOf i).toNat)
          case atStart => exact ⟨0, l2, by omega, rfl, O2.mono hk1.le, m2, p2, by show _ = _; rw [E2.out, Nat.pow_zero], hk03⟩
          case round =>
            obtain ⟨k, l, hkm, rfl, hown, hml, hnl, hvl, hkp⟩ := hrel
            obtain ⟨a5, c5, rfl, hc5, r5⟩ := hown.shape
            by_cases hkl : k < m
            · have hl5 : l.length ≤ K := len_le_pow hnl K (by rw [hvl.out]; exact HR.out _ (by omega))
              go_wp2_with fail
              refine (hMul _ hkp _ _ _ hl5 r5 hml).mono ?_
              rintro e w6 ⟨v6, l6, rfl, o6, m6, p6, e6, hk6⟩
              have E6 : Hid (val l6 = val la ^ (k + 1)) := by show _ = _; rw [e6, hvl.out, Nat.pow_succ]
              clear e6
              obtain ⟨a6, c6, rfl, hc6, r6⟩ := o6.shape
              go_wp2_with fail
              go_roundw
              case rel => exact ⟨k + 1, l6, by omega, by go_num, o6.mono hkp.le, m6, p6, E6, hkp.trans hk6⟩
              case measure => simp [intOf]; omega
            · have hke : k = m := by omega
              subst hke
              go_wp2_with fail
              go_ret2
              exact ⟨_, _, l, rfl, hc5, r5, hml, hnl, hvl.out, hkp⟩
end Go.Proofs.YtbjidpooociamaaDoor
