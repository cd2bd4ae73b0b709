import Derived.Test.YtbjidpooociamaaDoorE8
import Derived.Test.YtbjidpooociamaaDoorSums
namespace Go.Proofs.YtbjidpooociamaaDoor
open Go.RowKit Lb
def shE (n : Int) : Int := if n < 0 ∨ 1048576 < n then 2 else 0
def upV (la : List Nat) (n : Int) : Nat := if n < 0 ∨ 1048576 < n then 0 else val la * 2 ^ n.toNat
def downV (la : List Nat) (n : Int) : Nat := if n < 0 ∨ 1048576 < n then 0 else val la / 2 ^ n.toNat
theorem Up_two (a : Option Addr) (ca : Nat) (n : Int) (la : List Nat) (w : World) (hca : la.length ≤ ca) (hla : la.length ≤ 1048576) (hra : Rd w a la) (hma : Lim la) :
    Calls Tryd.prog 43 #[.slice a la.length ca, .int .i64 n] w fun e w' => Two w w' e (upV la n) (shE n) := by
  unfold upV shE
  by_cases hout : n < 0 ∨ 1048576 < n
  · rw [if_pos hout, if_pos hout]
    refine (Up_out a ca n la w hout).mono ?_
    rintro e w' ⟨rfl, hk⟩
    exact Two.nought hk
  · rw [if_neg hout, if_neg hout]
    obtain ⟨m, rfl⟩ : ∃ m : Nat, n = (m : Int) := ⟨n.toNat, by omega⟩
    refine (Up_any a ca m la w hca (by omega) (by omega) hra hma).mono ?_
    rintro e w' ⟨v, rfl, hn, hk⟩
    obtain ⟨a3, c3, l3, rfl, hc3, r3, m3, p3, e3, -⟩ := hn.shape
    exact ⟨_, _, _, rfl, hc3, r3, m3, p3, by simpa using e3, hk⟩
theorem rUp_two (a : Option Addr) (ca : Nat) (n : Int) (la : List Nat) (w : World) (hla : la.length ≤ 1048576) (hra : Rd w a la) (hma : Lim la) :
    Calls Tryd.prog 44 #[.slice a la.length ca, .int .i64 n] w fun e w' => Two w w' e (upV la n) (shE n) := by
  unfold upV shE
  by_cases hout : n < 0 ∨ 1048576 < n
  · rw [if_pos hout, if_pos hout]
    refine (rUp_out a ca n la w hout).mono ?_
    rintro e w' ⟨rfl, hk⟩
    exact Two.nought hk
  · rw [if_neg hout, if_neg hout]
    obtain ⟨m, rfl⟩ : ∃ m : Nat, n = (m : Int) := ⟨n.toNat, by omega⟩
    refine (rUp_any a ca m la w (by omega) (by omega) hra hma).mono ?_
    rintro e w' ⟨v, l3, rfl, o3, m3, p3, e3, hk⟩
    obtain ⟨a3, c3, rfl, hc3, r3⟩ := o3.shape
    exact ⟨_, _, _, rfl, hc3, r3, m3, p3, by simpa using e3, hk⟩
theorem Down_two (a : Option Addr) (ca : Nat) (n : Int) (la : List Nat) (w : World) (hca : la.length ≤ ca) (hla : la.length ≤ 1048576) (hra : Rd w a la) (hma : Lim la) :
    Calls Tryd.prog 45 #[.slice a la.length ca, .int .i64 n] w fun e w' => Two w w' e (downV la n) (shE n) := by
  unfold downV shE
  by_cases hout : n < 0 ∨ 1048576 < n
  · rw [if_pos hout, if_pos hout]
    refine (Down_out a ca n la w hout).mono ?_
    rintro e w' ⟨rfl, hk⟩
    exact Two.nought hk
  · rw [if_neg hout, if_neg hout]
    obtain ⟨m, rfl⟩ : ∃ m : Nat, n = (m : Int) := ⟨n.toNat, by omega⟩
    refine (Down_any a ca m la w hca (by omega) (by omega) hra hma).mono ?_
    rintro e w' ⟨v, rfl, hn, hk⟩
    obtain ⟨a3, c3, l3, rfl, hc3, r3, m3, p3, e3, -⟩ := hn.shape
    exact ⟨_, _, _, rfl, hc3, r3, m3, p3, by simpa using e3, hk⟩
theorem rDown_two (a : Option Addr) (ca : Nat) (n : Int) (la : List Nat) (w : World) (hla : la.length ≤ 1048576) (hra : Rd w a la) (hma : Lim la) :
    Calls Tryd.prog 46 #[.slice a la.length ca, .int .i64 n] w fun e w' => Two w w' e (downV la n) (shE n) := by
  unfold downV shE
  by_cases hout : n < 0 ∨ 1048576 < n
  · rw [if_pos hout, if_pos hout]
    refine (rDown_out a ca n la w hout).mono ?_
    rintro e w' ⟨rfl, hk⟩
    exact Two.nought hk
  · rw [if_neg hout, if_neg hout]
    obtain ⟨m, rfl⟩ : ∃ m : Nat, n = (m : Int) := ⟨n.toNat, by omega⟩
    refine (rDown_any a ca m la w (by omega) (by omega) hra hma).mono ?_
    rintro e w' ⟨v, l3, rfl, o3, m3, p3, e3, hk⟩
    obtain ⟨a3, c3, rfl, hc3, r3⟩ := o3.shape
    exact ⟨_, _, _, rfl, hc3, r3, m3, p3, by simpa using e3, hk⟩
theorem powV_lt (la : List Nat) (hm : Lim la) (n : Int) (K : Nat) (hK : 65536 < 32 * K) : powV la n < 4294967296 ^ K := by
  have h0 : 0 < 4294967296 ^ K := Nat.pos_of_ne_zero (by simp)
  unfold powV
  split
  · exact h0
  · split
    · exact h0
    · rename_i h1 h2
      refine pow_room la hm n.toNat K hK ?_ _ (Nat.le_refl _)
      obtain ⟨m, rfl⟩ : ∃ m : Nat, n = (m : Int) := ⟨n.toNat, by omega⟩
      rw [← Int.natCast_mul] at h2
      simp only [Int.toNat_natCast]
      omega
theorem upV_lt (la : List Nat) (hm : Lim la) (n : Int) (T : Nat) (hT : 1048576 ≤ 32 * T) : upV la n < 4294967296 ^ (la.length + T) := by
  have h0 : 0 < 4294967296 ^ (la.length + T) := Nat.pos_of_ne_zero (by simp)
  unfold upV
  split
  · exact h0
  · rename_i h1
    have h2 := val_lt hm
    have h3 : 2 ^ n.toNat ≤ 4294967296 ^ T := by
      rw [show (4294967296 : Nat) = 2 ^ 32 from rfl, ← Nat.pow_mul]
      exact Nat.pow_le_pow_right (by omega) (by omega)
    rw [Nat.pow_add]
    exact Nat.mul_lt_mul_of_lt_of_le h2 h3 (Nat.pos_of_ne_zero (by simp))
theorem downV_lt (la : List Nat) (hm : Lim la) (n : Int) : downV la n < 4294967296 ^ la.length := by
  unfold downV
  split
  · exact Nat.pos_of_ne_zero (by simp)
  · exact Nat.lt_of_le_of_lt (Nat.div_le_self _ _) (val_lt hm)
set_option maxRecDepth 100000 in
set_option maxHeartbeats 800000 in
theorem law_powers (a : Option Addr) (ca : Nat) (la : List Nat) (n k : Int) (w : World) (hca : la.length ≤ ca) (hla : la.length ≤ 1048576) (hra : Rd w a la) (hma : Lim la) :
    Calls Tryd.prog 7 #[.slice a la.length ca, .int .i64 n, .int .i64 k] w fun e w' => e = .returned (.bool true) ∧ Keep w w' := by
  have bP := powV_lt la hma n
  obtain ⟨T, hT, hT2⟩ : ∃ T, 1048576 ≤ 32 * T ∧ T ≤ 65536 := ⟨32768, by omega, by omega⟩
  have bU := upV_lt la hma k T hT
  have bD := downV_lt la hma k
  have c1 := fun wx (hk : Keep w wx) => Pow_any a ca n la wx hca hla (hra.keep hk) hma
  have c2 := fun wx (hk : Keep w wx) => rPow_any a ca n la wx hca hla (hra.keep hk) hma
  have c3 := fun wx (hk : Keep w wx) => Up_two a ca k la wx hca hla (hra.keep hk) hma
  have c4 := fun wx (hk : Keep w wx) => rUp_two a ca k la wx hla (hra.keep hk) hma
  have c5 := fun wx (hk : Keep w wx) => Down_two a ca k la wx hca hla (hra.keep hk) hma
  have c6 := fun wx (hk : Keep w wx) => rDown_two a ca k la wx hla (hra.keep hk) hma
  generalize powV la n = pv at *
  generalize powE la n = pe at *
  generalize upV la k = uv at *
  generalize downV la k = dv at *
  generalize shE k = se at *
  obtain ⟨K, hK, hK2⟩ : ∃ K, 65536 < 32 * K ∧ K ≤ 4096 := ⟨2049, by omega, by omega⟩
  have bP := bP K hK
  go_enter Tryd.func7, Tryd.ntmps7
  go_wp2_with fail
  refine (c1 _ (Keep.refl _)).mono ?_
  rintro e w1 ⟨a1, d1, l1, rfl, hd1, r1, m1, p1, e1, k1⟩
  go_wp2_with fail
  refine (c2 _ k1).mono ?_
  rintro e w2 ⟨a2, d2, l2, rfl, hd2, r2, m2, p2, e2, k2⟩
  have k02 := k1.trans k2
  obtain rfl : l2 = l1 := val_inj m2 m1 p2 p1 (by omega)
  have hl1 := len_le_pow p1 K (by rw [e1]; exact bP)
  have r1 := r1.keep k2
  clear e1 e2 bP
  go_wp2_with fail
  refine (lives_any w2).mono ?_
  rintro e w3 ⟨rfl, k3⟩
  have k03 := k02.trans k3
  have s4 := Same_any a1 a2 d1 d2 l2 w3 (by omega) (r1.keep k3) (r2.keep k3)
  go_wp2_with fail
  refine s4.mono ?_
  rintro e w4 ⟨rfl, d4⟩
  have k04 := k03.trans d4.keep
  clear s4 r1 r2
  go_wp2_with fail
  refine (c3 _ k04).mono ?_
  rintro e w5 ⟨a5, d5, l5, rfl, hd5, r5, m5, p5, e5, k5⟩
  have k05 := k04.trans k5
  go_wp2_with fail
  refine (c4 _ k05).mono ?_
  rintro e w6 ⟨a6, d6, l6, rfl, hd6, r6, m6, p6, e6, k6⟩
  have k06 := k05.trans k6
  obtain rfl : l6 = l5 := val_inj m6 m5 p6 p5 (by omega)
  have hl6 := len_le_pow p6 _ (by rw [e6]; exact bU)
  have s7 := Same_any a5 a6 d5 d6 l6 w6 (by omega) (r5.keep k6) r6
  clear e5 e6 bU
  go_wp2_with fail
  refine s7.mono ?_
  rintro e w7 ⟨rfl, q7⟩
  have k07 := k06.trans q7.keep
  clear s7 r5 r6
  go_wp2_with fail
  refine (c5 _ k07).mono ?_
  rintro e w8 ⟨a8, d8, l8, rfl, hd8, r8, m8, p8, e8, k8⟩
  have k08 := k07.trans k8
  go_wp2_with fail
  refine (c6 _ k08).mono ?_
  rintro e w9 ⟨a9, d9, l9, rfl, hd9, r9, m9, p9, e9, k9⟩
  have k09 := k08.trans k9
  obtain rfl : l9 = l8 := val_inj m9 m8 p9 p8 (by omega)
  have hl9 := len_le_pow p9 _ (by rw [e9]; exact bD)
  have s10 := Same_any a8 a9 d8 d9 l9 w9 (by omega) (r8.keep k9) r9
  clear e8 e9 bD
  go_wp2_with fail
  refine s10.mono ?_
  rintro e w10 ⟨rfl, q10⟩
  go_wp2_with fail
  go_ret
  exact ⟨rfl, k09.trans q10.keep⟩
end Go.Proofs.YtbjidpooociamaaDoor
