import Derived.Test.YtpdjpjkieafnbaaDoorR10
import Derived.Test.YtpdjpjkieafnbaaDoorNC4
import Derived.Test.YtpdjpjkieafnbaaDoorLE7
import Derived.Test.YtpdjpjkieafnbaaDoorLD6
import Derived.Test.YtpdjpjkieafnbaaDoorMF9
set_option linter.unusedVariables false
set_option linter.unusedSimpArgs false
namespace Go.Proofs.YtpdjpjkieafnbaaDoor.Li
open Go.RowKit Lb Nr
theorem Lv.more {w : World} {v : Value} {n K K' : Nat} (h : Lv w v n K) (hk : K ≤ K') : Lv w v n K' := by
  obtain ⟨a, c, l, e, h1, h2, h3⟩ := h
  exact ⟨a, c, l, e, h1, by omega, h3⟩
theorem From_lv (n : Nat) (w : World) (hn : n < 18446744073709551616) : Calls Tryd.prog 6 #[.int .u64 (n : Nat)] w fun e w' => ∃ v, e = .returned v ∧ Lv w' v n 2 ∧ Keep w w' := by
  refine (From_any n w hn).mono ?_
  rintro e w' ⟨v, l, rfl, h1, h2, h3, h4, k⟩
  exact ⟨v, rfl, NatR.lv (B := w.heap.size) ⟨l, h1, h2, h3, h4⟩ (by show n < 18446744073709551616; exact hn), k⟩
theorem Mul_lv (v1 v2 : Value) (n m K K' : Nat) (w : World) (h1 : Lv w v1 n K) (h2 : Lv w v2 m K) (hK : K ≤ 35184372088000) (hm : n * m < 4294967296 ^ K') : Calls Tryd.prog 10 #[v1, v2] w fun e w' => ∃ v, e = .returned v ∧ Lv w' v (n * m) K' ∧ Keep w w' := by
  obtain ⟨a, c, l, rfl, p1, p2, p3, p4, p5⟩ := h1
  obtain ⟨b, d, r, rfl, q1, q2, q3, q4, q5⟩ := h2
  refine (Mul_any a b c d l r w p1 q1 (by omega) (by omega) p3 q3 p4 q4).mono ?_
  rintro e w' ⟨v, rfl, hv, k⟩
  rw [p5, q5] at hv
  exact ⟨v, rfl, hv.natR.lv hm, k⟩
/-- Powers of ten. -/
theorem Pow10_lv (v : Value) (n : Nat) (w : World) (h : Lv w v 10 2) (hn : n ≤ 16000) : Calls Tryd.prog 9 #[v, .int .i64 (n : Int)] w fun e w' => ∃ u, e = .returned (.tuple #[u, .int .i64 0]) ∧ Lv w' u (10 ^ n) 2001 ∧ Keep w w' := by
  obtain ⟨K, hK⟩ : ∃ K, K = 2001 := ⟨_, rfl⟩
  rw [← hK]
  obtain ⟨a, c, l, rfl, p1, p2, p3, p4, p5⟩ := h
  have hL : lenB l = 4 := by
    rw [lenB_sz p4, p5]
    decide
  have e1 : powE l (n : Int) = 0 := by
    unfold powE
    rw [if_neg (by omega), hL, if_neg (by omega)]
  have e2 : powV l (n : Int) = 10 ^ n := by
    unfold powV
    rw [if_neg (by omega), hL, if_neg (by omega), p5]
    rfl
  refine (Pow_any a c (n : Int) l w p1 (by omega) p3 p4).mono ?_
  rintro e w' ⟨a', c', l', rfl, q1, q2, q3, q4, q5, k⟩
  rw [e1]
  rw [e2] at q5
  refine ⟨_, rfl, ⟨a', c', l', rfl, q1, len_of q4 ?_, q2, q3, q5⟩, k⟩
  rw [q5]
  have h1 : 10 ^ n ≤ 16 ^ n := Nat.pow_le_pow_left (by omega) n
  have h2 : (16 : Nat) ^ n = 2 ^ (4 * n) := by rw [Nat.pow_mul]
  have h3 := pow_small (4 * n) (K - 1) (by omega)
  have h4 : 4294967296 ^ (K - 1) < 4294967296 ^ K := Nat.pow_lt_pow_right (by omega) (by omega)
  rw [h2] at h1
  exact Nat.lt_of_le_of_lt (Nat.le_trans h1 h3) h4
/-- What decimal digits say. -/
theorem numv_nat (l : List UInt8) : numv (l.map UInt8.toNat) = nat l := by
  unfold numv nat
  rw [List.foldl_map]
  congr 1
  funext a b
  unfold dv
  omega
theorem S8_mk (l : List UInt8) : S8 (l.map UInt8.toNat) = ⟨l.toArray⟩ := by
  unfold S8
  congr 1
  rw [List.map_map]
  have : (UInt8.ofNat ∘ UInt8.toNat) = id := by funext x; simp
  rw [this, List.map_id]
theorem nat_room {l : List UInt8} (hd : allD l) (hl : l.length ≤ 16000) (K : Nat) (hK : 2001 ≤ K) : nat l < 4294967296 ^ K := by
  have h0 := nat_lt hd
  have h1 : 10 ^ l.length ≤ 16 ^ l.length := Nat.pow_le_pow_left (by omega) _
  have h2 : (16 : Nat) ^ l.length = 2 ^ (4 * l.length) := by rw [Nat.pow_mul]
  have h3 := pow_small (4 * l.length) (K - 1) (by omega)
  have h4 : 4294967296 ^ (K - 1) < 4294967296 ^ K := Nat.pow_lt_pow_right (by omega) (by omega)
  rw [h2] at h1
  exact Nat.lt_trans h0 (Nat.lt_of_le_of_lt (Nat.le_trans h1 h3) h4)
theorem Read_lv (l : List UInt8) (w : World) (hd : allD l) (h0 : l ≠ []) (hl : l.length ≤ 16000) : Calls Tryd.prog 7 #[.string ⟨l.toArray⟩] w fun e w' => ∃ v, e = .returned (.tuple #[v, .int .i64 0, .int .i64 0]) ∧ Lv w' v (nat l) 2001 ∧ Keep w w' := by
  obtain ⟨K, hK⟩ : ∃ K, K = 2001 := ⟨_, rfl⟩
  rw [← hK]
  have h := Read_any (l.map UInt8.toNat) w (by
    intro x hx
    obtain ⟨b, hb, rfl⟩ := List.mem_map.1 hx
    have := hd b hb
    unfold isD at this
    have := of_decide_eq_true this
    omega) (by simpa using h0) (by rw [List.length_map]; omega)
  rw [S8_mk, numv_nat] at h
  refine h.mono ?_
  rintro e w' ⟨v, rfl, hv, k⟩
  exact ⟨v, rfl, hv.lv (nat_room hd hl K (by omega)), k⟩
abbrev Tv (ng hx pn : Bool) (wh pt ds : List UInt8) : Value := .agg #[.bool ng, .bool hx, .string ⟨wh.toArray⟩, .string ⟨pt.toArray⟩, .bool pn, .string ⟨ds.toArray⟩]
set_option maxRecDepth 100000 in
set_option maxHeartbeats 400000 in
/-- Digits as a natural; a power of ten. -/
theorem natural_dec (ng pn : Bool) (wh pt ds l : List UInt8) (w : World) (hd : allD l) (h0 : l ≠ []) (hl : l.length ≤ 16000) :
    Calls Tryd.prog 54 #[.agg #[.bool ng, .bool false, .string ⟨wh.toArray⟩, .string ⟨pt.toArray⟩, .bool pn, .string ⟨ds.toArray⟩], .string ⟨l.toArray⟩] w fun e w' => ∃ v, e = .returned v ∧ Lv w' v (nat l) 2001 ∧ Keep w w' := by
  have hR := fun wx => Read_lv l wx hd h0 hl
  generalize nat l = N at *
  clear hd h0
  obtain ⟨wb, hwb⟩ : ∃ wb, w.alloc (.cells #[.bool ng, .bool false, .string ⟨wh.toArray⟩, .string ⟨pt.toArray⟩, .bool pn, .string ⟨ds.toArray⟩] 62) = wb := ⟨_, rfl⟩
  have c1 : wb.cell? ⟨w.heap.size, 1, none⟩ = some (.bool false) := by rw [← hwb, (Sp.new w _).cell]; rfl
  have HK : Hid (Keep w wb) := by unfold Hid; rw [← hwb]; exact (Keep.refl w).alloc _
  go_enter Tryd.func54, Tryd.ntmps54
  go_wp2_with fail
  refine (hR _).mono ?_
  rintro e w2 ⟨v, rfl, hv, k2⟩
  go_wp2_with fail
  go_ret
  exact ⟨v, rfl, hv, HK.out.trans k2⟩
set_option maxRecDepth 100000 in
set_option maxHeartbeats 400000 in
theorem basePower_dec (ng pn : Bool) (wh pt ds : List UInt8) (n : Nat) (w : World) (hn : n ≤ 16000) :
    Calls Tryd.prog 55 #[.agg #[.bool ng, .bool false, .string ⟨wh.toArray⟩, .string ⟨pt.toArray⟩, .bool pn, .string ⟨ds.toArray⟩], .int .i64 (n : Int)] w fun e w' => ∃ v, e = .returned v ∧ Lv w' v (10 ^ n) 2001 ∧ Keep w w' := by
  have hF := fun wx => From_lv 10 wx (by omega)
  have hP := fun v wx (h : Lv wx v 10 2) => Pow10_lv v n wx h hn
  generalize 10 ^ n = N at *
  obtain ⟨wb, hwb⟩ : ∃ wb, w.alloc (.cells #[.bool ng, .bool false, .string ⟨wh.toArray⟩, .string ⟨pt.toArray⟩, .bool pn, .string ⟨ds.toArray⟩] 62) = wb := ⟨_, rfl⟩
  have c1 : wb.cell? ⟨w.heap.size, 1, none⟩ = some (.bool false) := by rw [← hwb, (Sp.new w _).cell]; rfl
  have HK : Hid (Keep w wb) := by unfold Hid; rw [← hwb]; exact (Keep.refl w).alloc _
  go_enter Tryd.func55, Tryd.ntmps55
  go_wp2_with fail
  refine (hF _).mono ?_
  rintro e w2 ⟨v, rfl, hv, k2⟩
  go_wp2_with fail
  refine (hP v _ hv).mono ?_
  rintro e w3 ⟨u, rfl, hu, k3⟩
  go_wp2_with fail
  go_ret
  exact ⟨u, rfl, hu, (HK.out.trans k2).trans k3⟩
end Go.Proofs.YtpdjpjkieafnbaaDoor.Li
