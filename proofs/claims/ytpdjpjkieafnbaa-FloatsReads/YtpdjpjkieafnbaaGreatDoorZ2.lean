import Derived.Test.YtpdjpjkieafnbaaGreatDoorR10
import Derived.Test.YtpdjpjkieafnbaaGreatDoorNC4
import Derived.Test.YtpdjpjkieafnbaaGreatDoorLE7
import Derived.Test.YtpdjpjkieafnbaaGreatDoorLD6
import Derived.Test.YtpdjpjkieafnbaaGreatDoorMF9
import Derived.Test.YtpdjpjkieafnbaaGreatDoorR4
import Derived.Test.YtpdjpjkieafnbaaGreatDoorNC3
import Derived.Test.YtpdjpjkieafnbaaGreatDoorLE3
set_option linter.unusedVariables false
set_option linter.unusedSimpArgs false
namespace Go.Proofs.YtpdjpjkieafnbaaGreatDoor.Li
open Go.RowKit Lb Nr
theorem Lv.more {w : World} {v : Value} {n K K' : Nat} (h : Lv w v n K) (hk : K ≤ K') : Lv w v n K' := by
  obtain ⟨a, c, l, e, h1, h2, h3⟩ := h
  exact ⟨a, c, l, e, h1, by omega, h3⟩
theorem From_lv (n : Nat) (w : World) (hn : n < 18446744073709551616) : Calls Tryz.prog 69 #[.int .u64 (n : Nat)] w fun e w' => ∃ v, e = .returned v ∧ Lv w' v n 2 ∧ Keep w w' := by
  refine (From_any n w hn).mono ?_
  rintro e w' ⟨v, l, rfl, h1, h2, h3, h4, k⟩
  exact ⟨v, rfl, NatR.lv (B := w.heap.size) ⟨l, h1, h2, h3, h4⟩ (by show n < 18446744073709551616; exact hn), k⟩
theorem Mul_lv (v1 v2 : Value) (n m K K' : Nat) (w : World) (h1 : Lv w v1 n K) (h2 : Lv w v2 m K) (hK : K ≤ 35184372088000) (hm : n * m < 4294967296 ^ K') : Calls Tryz.prog 108 #[v1, v2] w fun e w' => ∃ v, e = .returned v ∧ Lv w' v (n * m) K' ∧ Keep w w' := by
  obtain ⟨a, c, l, rfl, p1, p2, p3, p4, p5⟩ := h1
  obtain ⟨b, d, r, rfl, q1, q2, q3, q4, q5⟩ := h2
  refine (Mul_any a b c d l r w p1 q1 (by omega) (by omega) p3 q3 p4 q4).mono ?_
  rintro e w' ⟨v, rfl, hv, k⟩
  rw [p5, q5] at hv
  exact ⟨v, rfl, hv.natR.lv hm, k⟩
/-- Powers of ten. -/
theorem Pow10_lv (v : Value) (n : Nat) (w : World) (h : Lv w v 10 2) (hn : n ≤ 16000) : Calls Tryz.prog 39 #[v, .int .i64 (n : Int)] w fun e w' => ∃ u, e = .returned (.tuple #[u, .int .i64 0]) ∧ Lv w' u (10 ^ n) 2001 ∧ Keep w w' := by
  obtain ⟨K, hK⟩ : ∃ K, K = 2001 := ⟨_, rfl⟩
  rw [← hK]
  obtain ⟨a, c, l, rfl, p1, p2, p3, p4, p5⟩ := h
  have hL : lenB l = 4 := by
    rw [lenB_sz p4, p5]
    decide
  have e1 : powE l (n : Int) = 0 := by
    unfold powE
    rw [if_neg (by omega), hL, if_neg (by omega)]
  have e2 : powV l (n : Int) = 10 ^ n := by
    unfold powV
    rw [if_neg (by omega), hL, if_neg (by omega), p5]
    rfl
  refine (Pow_any a c (n : Int) l w p1 (by omega) p3 p4).mono ?_
  rintro e w' ⟨a', c', l', rfl, q1, q2, q3, q4, q5, k⟩
  rw [e1]
  rw [e2] at q5
  refine ⟨_, rfl, ⟨a', c', l', rfl, q1, len_of q4 ?_, q2, q3, q5⟩, k⟩
  rw [q5]
  have h1 : 10 ^ n ≤ 16 ^ n := Nat.pow_le_pow_left (by omega) n
  have h2 : (16 : Nat) ^ n = 2 ^ (4 * n) := by rw [Nat.pow_mul]
  have h3 := pow_small (4 * n) (K - 1) (by omega)
  have h4 : 4294967296 ^ (K - 1) < 4294967296 ^ K := Nat.pow_lt_pow_right (by omega) (by omega)
  rw [h2] at h1
  exact Nat.lt_of_le_of_lt (Nat.le_trans h1 h3) h4
/-- What decimal digits say. -/
theorem numv_nat (l : List UInt8) : numv (l.map UInt8.toNat) = nat l := by
  unfold numv nat
  rw [List.foldl_map]
  congr 1
  funext a b
  unfold dv
  omega
theorem S8_mk (l : List UInt8) : S8 (l.map UInt8.toNat) = ⟨l.toArray⟩ := by
  unfold S8
  congr 1
  rw [List.map_map]
  have : (UInt8.ofNat ∘ UInt8.toNat) = id := by funext x; simp
  rw [this, List.map_id]
theorem nat_room {l : List UInt8} (hd : allD l) (hl : l.length ≤ 16000) (K : Nat) (hK : 2001 ≤ K) : nat l < 4294967296 ^ K := by
  have h0 := nat_lt hd
  have h1 : 10 ^ l.length ≤ 16 ^ l.length := Nat.pow_le_pow_left (by omega) _
  have h2 : (16 : Nat) ^ l.length = 2 ^ (4 * l.length) := by rw [Nat.pow_mul]
  have h3 := pow_small (4 * l.length) (K - 1) (by omega)
  have h4 : 4294967296 ^ (K - 1) < 4294967296 ^ K := Nat.pow_lt_pow_right (by omega) (by omega)
  rw [h2] at h1
  exact Nat.lt_trans h0 (Nat.lt_of_le_of_lt (Nat.le_trans h1 h3) h4)
theorem Read_lv (l : List UInt8) (w : World) (hd : allD l) (h0 : l ≠ []) (hl : l.length ≤ 16000) : Calls Tryz.prog 38 #[.string ⟨l.toArray⟩] w fun e w' => ∃ v, e = .returned (.tuple #[v, .int .i64 0, .int .i64 0]) ∧ Lv w' v (nat l) 2001 ∧ Keep w w' := by
  obtain ⟨K, hK⟩ : ∃ K, K = 2001 := ⟨_, rfl⟩
  rw [← hK]
  have h := Read_any (l.map UInt8.toNat) w (by
    intro x hx
    obtain ⟨b, hb, rfl⟩ := List.mem_map.1 hx
    have := hd b hb
    unfold isD at this
    have := of_decide_eq_true this
    omega) (by simpa using h0) (by rw [List.length_map]; omega)
  rw [S8_mk, numv_nat] at h
  refine h.mono ?_
  rintro e w' ⟨v, rfl, hv, k⟩
  exact ⟨v, rfl, hv.lv (nat_room hd hl K (by omega)), k⟩
abbrev Tv (ng hx pn : Bool) (wh pt ds : List UInt8) : Value := .agg #[.bool ng, .bool hx, .string ⟨wh.toArray⟩, .string ⟨pt.toArray⟩, .bool pn, .string ⟨ds.toArray⟩]
set_option maxRecDepth 100000 in
set_option maxHeartbeats 400000 in
/-- Digits as a natural; a power of ten. -/
theorem natural_dec (ng pn : Bool) (wh pt ds l : List UInt8) (w : World) (hd : allD l) (h0 : l ≠ []) (hl : l.length ≤ 16000) :
    Calls Tryz.prog 138 #[.agg #[.bool ng, .bool false, .string ⟨wh.toArray⟩, .string ⟨pt.toArray⟩, .bool pn, .string ⟨ds.toArray⟩], .string ⟨l.toArray⟩] w fun e w' => ∃ v, e = .returned v ∧ Lv w' v (nat l) 2001 ∧ Keep w w' := by
  have hR := fun wx => Read_lv l wx hd h0 hl
  generalize nat l = N at *
  clear hd h0
  obtain ⟨wb, hwb⟩ : ∃ wb, w.alloc (.cells #[.bool ng, .bool false, .string ⟨wh.toArray⟩, .string ⟨pt.toArray⟩, .bool pn, .string ⟨ds.toArray⟩] 129) = wb := ⟨_, rfl⟩
  have c1 : wb.cell? ⟨w.heap.size, 1, none⟩ = some (.bool false) := by rw [← hwb, (Sp.new w _).cell]; rfl
  have HK : Hid (Keep w wb) := by unfold Hid; rw [← hwb]; exact (Keep.refl w).alloc _
  go_enter Tryz.func138, Tryz.ntmps138
  go_wp2_with fail
  refine (hR _).mono ?_
  rintro e w2 ⟨v, rfl, hv, k2⟩
  go_wp2_with fail
  go_ret
  exact ⟨v, rfl, hv, HK.out.trans k2⟩
set_option maxRecDepth 100000 in
set_option maxHeartbeats 400000 in
theorem basePower_dec (ng pn : Bool) (wh pt ds : List UInt8) (n : Nat) (w : World) (hn : n ≤ 16000) :
    Calls Tryz.prog 139 #[.agg #[.bool ng, .bool false, .string ⟨wh.toArray⟩, .string ⟨pt.toArray⟩, .bool pn, .string ⟨ds.toArray⟩], .int .i64 (n : Int)] w fun e w' => ∃ v, e = .returned v ∧ Lv w' v (10 ^ n) 2001 ∧ Keep w w' := by
  have hF := fun wx => From_lv 10 wx (by omega)
  have hP := fun v wx (h : Lv wx v 10 2) => Pow10_lv v n wx h hn
  generalize 10 ^ n = N at *
  obtain ⟨wb, hwb⟩ : ∃ wb, w.alloc (.cells #[.bool ng, .bool false, .string ⟨wh.toArray⟩, .string ⟨pt.toArray⟩, .bool pn, .string ⟨ds.toArray⟩] 129) = wb := ⟨_, rfl⟩
  have c1 : wb.cell? ⟨w.heap.size, 1, none⟩ = some (.bool false) := by rw [← hwb, (Sp.new w _).cell]; rfl
  have HK : Hid (Keep w wb) := by unfold Hid; rw [← hwb]; exact (Keep.refl w).alloc _
  go_enter Tryz.func139, Tryz.ntmps139
  go_wp2_with fail
  refine (hF _).mono ?_
  rintro e w2 ⟨v, rfl, hv, k2⟩
  go_wp2_with fail
  refine (hP v _ hv).mono ?_
  rintro e w3 ⟨u, rfl, hu, k3⟩
  go_wp2_with fail
  go_ret
  exact ⟨u, rfl, hu, (HK.out.trans k2).trans k3⟩
end Go.Proofs.YtpdjpjkieafnbaaGreatDoor.Li
set_option linter.unusedVariables false
set_option linter.unusedSimpArgs false
namespace Go.Proofs.YtpdjpjkieafnbaaGreatDoor.Li
open Go.RowKit Lb Nr
theorem val_limb (r : List Nat) (q : Nat) : r.getD q 0 * 4294967296 ^ q ≤ val r := by
  induction r generalizing q with
  | nil => simp [val]
  | cons x r ih =>
    cases q with
    | zero => simp [val]
    | succ q =>
      have h := ih q
      simp only [List.getD_cons_succ, val]
      rw [Nat.pow_succ, ← Nat.mul_assoc, Nat.mul_comm _ 4294967296]
      have := Nat.mul_le_mul_left 4294967296 h
      omega
theorem limb_lt {r : List Nat} {i : Nat} (h : val r < 16 ^ i) : r.getD (i / 8) 0 < 2 ^ (4 * (i % 8)) := by
  have h1 := val_limb r (i / 8)
  have e : (16 : Nat) ^ i = 2 ^ (4 * (i % 8)) * 4294967296 ^ (i / 8) := by
    rw [show (16 : Nat) = 2 ^ 4 from rfl, show (4294967296 : Nat) = 2 ^ 32 from rfl, ← Nat.pow_mul, ← Nat.pow_mul, ← Nat.pow_add]
    congr 1
    omega
  rw [e] at h
  exact Nat.lt_of_mul_lt_mul_right (Nat.lt_of_le_of_lt h1 h)
theorem dig_place (d i : Nat) : d * 2 ^ (4 * (i % 8)) * 4294967296 ^ (i / 8) = d * 16 ^ i := by
  rw [Nat.mul_assoc]
  congr 1
  rw [show (16 : Nat) = 2 ^ 4 from rfl, show (4294967296 : Nat) = 2 ^ 32 from rfl, ← Nat.pow_mul, ← Nat.pow_mul, ← Nat.pow_add]
  congr 1
  omega
theorem limb_add {a d k : Nat} (ha : a < 2 ^ (4 * k)) (hd : d < 16) (hk : k < 8) : a + d * 2 ^ (4 * k) < 4294967296 ∧ d * 2 ^ (4 * k) < 4294967296 := by
  have h1 : d * 2 ^ (4 * k) ≤ 15 * 2 ^ (4 * k) := Nat.mul_le_mul_right _ (by omega)
  have h2 : (2 : Nat) ^ (4 * k) ≤ 2 ^ 28 := Nat.pow_le_pow_right (by omega) (by omega)
  have h3 : (2 : Nat) ^ 28 = 268435456 := rfl
  generalize (2 : Nat) ^ (4 * k) = P at *
  omega
set_option maxRecDepth 100000 in
set_option maxHeartbeats 4000000 in
theorem natural_hex (ng pn : Bool) (wh pt ds l : List UInt8) (w : World) (hd : allX l) (hl : l.length ≤ 16000) :
    Calls Tryz.prog 138 #[.agg #[.bool ng, .bool true, .string ⟨wh.toArray⟩, .string ⟨pt.toArray⟩, .bool pn, .string ⟨ds.toArray⟩], .string ⟨l.toArray⟩] w fun e w' => ∃ v, e = .returned v ∧ Lv w' v (hnat l) 2001 ∧ Keep w w' := by
  obtain ⟨wb, hwb⟩ : ∃ wb, w.alloc (.cells #[.bool ng, .bool true, .string ⟨wh.toArray⟩, .string ⟨pt.toArray⟩, .bool pn, .string ⟨ds.toArray⟩] 129) = wb := ⟨_, rfl⟩
  have c1 : wb.cell? ⟨w.heap.size, 1, none⟩ = some (.bool true) := by rw [← hwb, (Sp.new w _).cell]; rfl
  have HK : Hid (Keep w wb) := by unfold Hid; rw [← hwb]; exact (Keep.refl w).alloc _
  have hsz : (ByteArray.mk l.toArray).size = l.length := sz_mk l
  obtain ⟨K, hK⟩ : ∃ K, l.length / 8 + 1 = K := ⟨_, rfl⟩
  have hdiv : Int.tdiv (l.length : Int) 8 = ((l.length / 8 : Nat) : Int) := by rw [Int.ofNat_tdiv]; rfl
  have hw1 : IntKind.i64.wrap (((l.length / 8 : Nat) : Int) + 1) = (K : Int) := by rw [IntWalk.i64_left, ← hK]; exact IntWalk.wrap64_in _ (by omega)
  have hK2 : K ≤ 2001 := by omega
  have HL : Hid (l.length / 8 + 1 = K) := hK
  have hW2 : ((l.length / 8 : Nat) : Int) + 1 = (K : Int) := by omega
  obtain ⟨L8, hL8⟩ : ∃ L8, l.length / 8 = L8 := ⟨_, rfl⟩
  rw [hL8] at hdiv hw1 hW2
  clear hK hL8
  go_enter Tryz.func138, Tryz.ntmps138
  go_wp2_with (at_make; refine wpList_make32 _ rfl _ _ rfl _ _ _ _ K rfl rfl ?_ ?_ (by omega) ?_; rotate_left; rotate_left; intro w1 hrow hk hsz1)
  rotate_left 1
  · rfl
  · rfl
  have hz0 : val (List.replicate K 0) = 0 := by
    clear hK2 hw1 HL hW2 hrow hk hsz1
    induction K with
    | zero => rfl
    | succ K ih => rw [List.replicate_succ]; simp [val, ih]
  obtain ⟨g, hg⟩ : ∃ g, wb.heap.size = g := ⟨_, rfl⟩
  rw [hg] at hrow ⊢
  have hgw : Hid (w.heap.size ≤ g) := by have := HK.out.le; unfold Hid; omega
  have HK1 : Hid (Keep w w1) := HK.out.trans hk
  have Hrow : Hid (Row w1 g (List.replicate K 0) ∧ val (List.replicate K 0) = 0) := ⟨hrow, hz0⟩
  clear hrow hk hz0 c1
  go_loopw [27] (fun v27 wr => ∃ (i : Nat) (r : List Nat), i ≤ l.length ∧ v27 = .int .i64 (i : Int) ∧ Row wr g r ∧ r.length = K ∧ Hid (Lim r ∧ val r = hnat (l.drop (l.length - i))) ∧ Keep w wr) (fun v27 _ => l.length - (intOf v27).toNat)
  case atStart =>
    refine ⟨0, List.replicate K 0, Nat.zero_le _, rfl, Hrow.out.1, by simp, ⟨?_, ?_⟩, HK1.out⟩
    · intro x hx
      rw [(List.mem_replicate.1 hx).2]
      omega
    · rw [Hrow.out.2, Nat.sub_zero, List.drop_length]
      rfl
  case round =>
    obtain ⟨i, r, hi, rfl, hr, hrK, hrv, kr⟩ := hrel
    by_cases hil : i < l.length
    · have hltI : (i : Int) < (l.length : Int) := by omega
      have hall : allX (l.drop (l.length - i)) := fun b hb => hd b (List.mem_of_mem_drop hb)
      have hvl : val r < 16 ^ i := by
        have := hnat_lt hall
        rw [List.length_drop, show l.length - (l.length - i) = i by omega] at this
        rw [hrv.out.2]
        exact this
      have hql : i / 8 < r.length := by have := HL.out; omega
      have hcell := hr.cell (i / 8) hql
      have hfr := hr.frozen (i / 8)
      have hlim := limb_lt hvl
      have hmem : l.getD (l.length - 1 - i) 0 ∈ l := by
        have h1 : l.length - 1 - i < l.length := by omega
        simp only [List.getD, List.getElem?_eq_getElem h1, Option.getD_some]
        exact List.getElem_mem h1
      obtain ⟨hdv, hdl⟩ := hv_of (hd _ hmem)
      have hnx := hnat_last l i hil
      have hixI := fun wx => run_ix l (l.length - 1 - i) (by omega) wx
      have hdg := fun wx => digitOf_any (l.getD (l.length - 1 - i) 0).toNat (by have := (l.getD (l.length - 1 - i) 0).toNat_lt; omega) wx
      have hb8 := (l.getD (l.length - 1 - i) 0).toNat_lt
      rw [hdv] at hdg
      obtain ⟨old, hold⟩ : ∃ old, r.getD (i / 8) 0 = old := ⟨_, rfl⟩
      obtain ⟨d, hdd⟩ : ∃ d, hv (l.getD (l.length - 1 - i) 0) = d := ⟨_, rfl⟩
      obtain ⟨bb, hbb⟩ : ∃ bb, (l.getD (l.length - 1 - i) 0).toNat = bb := ⟨_, rfl⟩
      rw [hold] at hcell hlim
      rw [hdd] at hdl hdg hnx
      rw [hbb] at hixI hdg hb8
      obtain ⟨hsum, hprod⟩ := limb_add (k := i % 8) hlim hdl (Nat.mod_lt _ (by omega))
      have hor := or_shift old d (4 * (i % 8)) hlim
      have hnew := val_put r (i / 8) hql (d * 2 ^ (4 * (i % 8)))
      rw [hold, dig_place] at hnew
      obtain ⟨q, hq⟩ : ∃ q, i / 8 = q := ⟨_, rfl⟩
      obtain ⟨k, hk⟩ : ∃ k, i % 8 = k := ⟨_, rfl⟩
      rw [hq] at hcell hfr hql hnew
      rw [hk] at hsum hprod hor hnew
      obtain ⟨P, hP⟩ : ∃ P, d * 2 ^ (4 * k) = P := ⟨_, rfl⟩
      rw [hP] at hsum hprod hor hnew
      have hquo : Int.tdiv (i : Int) 8 = (q : Int) := by rw [← hq, Int.ofNat_tdiv]; rfl
      have hrem : Int.tmod (i : Int) 8 = (k : Int) := by rw [← hk, Int.ofNat_tmod]; rfl
      have hk8 : k < 8 := by omega
      have hquo2 : (i : Int) / 8 = (q : Int) := by omega
      have hrem2 : (i : Int) % 8 = (k : Int) := by omega
      have HP : Hid (d * 2 ^ (4 * k) = P) := hP
      have hsub1 : ((l.length : Int) - 1 - (i : Int)) = ((l.length - 1 - i : Nat) : Int) := by omega
      have HV : Hid (val (r.set q (old + P)) = hnat (l.drop (l.length - (i + 1)))) := by
        unfold Hid
        rw [hnew, hnx, hrv.out.2]
        rw [Nat.add_comm]
      have horI : bits .or .u32 (old : Int) (P : Int) = ((old + P : Nat) : Int) := by rw [u32_or_nat old P (by omega) hprod, hor]
      clear hP hall hvl hlim hmem hdv hnx hold hdd hbb hor hnew
      have hqK : (q : Int) < (K : Int) := by omega
      have hq0 : (0 : Int) ≤ (q : Int) := by omega
      have hqN : q < K := by omega
      have hj0 : (0 : Int) ≤ ((l.length - 1 - i : Nat) : Int) := by omega
      have hj1 : ((l.length - 1 - i : Nat) : Int) < (l.length : Int) := by omega
      have hwq : IntKind.i64.wrap (q : Int) = (q : Int) := by rw [IntWalk.i64_left]; exact IntWalk.wrap64_in _ (by omega)
      have hwl1 : IntKind.i64.wrap ((l.length : Int) - 1) = (l.length : Int) - 1 := by rw [IntWalk.i64_left]; exact IntWalk.wrap64_in _ (by omega)
      have hwl2 : IntKind.i64.wrap ((l.length : Int) - 1 - (i : Int)) = ((l.length - 1 - i : Nat) : Int) := by rw [hsub1, IntWalk.i64_left]; exact IntWalk.wrap64_in _ (by omega)
      have hw4 : IntKind.i64.wrap (4 * (k : Int)) = ((4 * k : Nat) : Int) := by rw [show 4 * (k : Int) = ((4 * k : Nat) : Int) by omega, IntWalk.i64_left]; exact IntWalk.wrap64_in _ (by omega)
      have hwb8 : IntKind.i32.wrap (bb : Int) = (bb : Int) := i32_small (by omega)
      have hwd : IntKind.u32.wrap (d : Int) = (d : Int) := by rw [IntKind.wrap_u32]; omega
      obtain ⟨jj, hjj⟩ : ∃ jj, l.length - 1 - i = jj := ⟨_, rfl⟩
      obtain ⟨k4, hk4⟩ : ∃ k4, 4 * k = k4 := ⟨_, rfl⟩
      rw [hjj] at hwl2 hixI hj0 hj1 hsub1
      rw [hk4] at hw4 HP
      have hshl : IntKind.u32.wrap ((d : Int) * 2 ^ k4) = (P : Int) := by
        have e : (d : Int) * 2 ^ k4 = (P : Int) := by rw [← HP.out]; push_cast; rfl
        rw [e, IntKind.wrap_u32]
        omega
      clear hsub1 hjj hq hk
      go_upto_region 8 with fail
      go_region_with (first | (go_at_call 168; refine (hdg _).mono ?_; rintro e wz ⟨rfl, hz⟩; rw [hz]; clear hz))
      all_goals
        go_wp2_with fail
        go_roundw
        case rel =>
          refine ⟨i + 1, r.set q (old + P), by omega, by go_num, ?_, by rw [List.length_set]; exact hrK, ⟨?_, HV.out⟩, ?_⟩
          · first
              | exact hr.set q (old + P)
              | exact (hr.set q (old + P)).drewN 1
          · intro x hx
            rcases List.mem_or_eq_of_mem_set hx with h | h
            · exact hrv.out.1 x h
            · rw [h]; exact hsum
          · first
              | exact kr.setCell (p := ⟨g, q, none⟩) hgw.out _
              | exact (kr.setCell (p := ⟨g, q, none⟩) hgw.out _).drew
              | exact kr.drew.setCell (p := ⟨g, q, none⟩) hgw.out _
              | exact (kr.drew.setCell (p := ⟨g, q, none⟩) hgw.out _).drew
        case measure => simp [intOf]; omega
    · have hltI : ¬ (i : Int) < (l.length : Int) := by omega
      have hie : i = l.length := by omega
      have Hfin : Hid (Lv wr (.slice (some ⟨g, 0, none⟩) K K) (hnat l) 2001) := by
        refine ⟨some ⟨g, 0, none⟩, K, r, by rw [hrK], by omega, by omega, ?_, hrv.out.1, ?_⟩
        · have := hr.rd 0 r.length (by omega)
          simpa using this
        · rw [hrv.out.2, hie, Nat.sub_self, List.drop_zero]
      clear hrv hie
      go_wp2_with fail
      go_ret
      exact ⟨_, rfl, Hfin.out, kr⟩
end Go.Proofs.YtpdjpjkieafnbaaGreatDoor.Li
set_option linter.unusedVariables false
set_option linter.unusedSimpArgs false
namespace Go.Proofs.YtpdjpjkieafnbaaGreatDoor.Li
open Go.RowKit Lb Nr
theorem sA_scale (g N : Nat) (e : Int) : sA (g * N) e = g * sA N e := by unfold sA; rw [Nat.mul_assoc]
theorem sB_scale (g N : Nat) (e : Int) : sB (g * N) e = g * sB N e := by unfold sB; rw [Nat.mul_assoc]
theorem isE_scale {g N D : Nat} (hg : 0 < g) (e : Int) : IsE (g * N) (g * D) e ↔ IsE N D e := by
  unfold IsE fl
  simp only [sA_scale, sB_scale, Nat.mul_div_mul_left _ _ hg]
theorem rup_scale {g N D : Nat} (hg : 0 < g) (hD : 0 < D) (e : Int) : rup (sA (g * N) e) (sB (g * D) e) = rup (sA N e) (sB D e) := by
  apply rup_ratio (sB_pos (Nat.mul_pos hg hD) e) (sB_pos hD e)
  rw [sA_scale, sB_scale, Nat.mul_assoc, Nat.mul_left_comm]
/-- The bits of the number nearest to a quotient. -/
def NB (N D x : Nat) : Prop := (N = 0 → x = 0) ∧ (0 < N → ∀ E, IsE N D E → x = wb (rup (sA N E) (sB D E)) E)
theorem NB.same {N D N' D' x : Nat} (h : NB N D x) (hD : 0 < D) (hD' : 0 < D') (he : N * D' = N' * D) : NB N' D' x := by
  refine ⟨fun h0 => h.1 ?_, fun h0 E hE => ?_⟩
  · rw [h0, Nat.zero_mul] at he
    rcases Nat.mul_eq_zero.1 he with c | c
    · exact c
    · omega
  · have hN : 0 < N := by
      rcases Nat.eq_zero_or_pos N with c | c
      · exfalso
        rw [c, Nat.zero_mul] at he
        have : 0 < N' * D := Nat.mul_pos h0 hD
        omega
      · exact c
    have e1 : D' * N = D * N' := by rw [Nat.mul_comm D' N, Nat.mul_comm D N']; exact he
    have e2 : D' * D = D * D' := Nat.mul_comm _ _
    have a := (isE_scale (N := N') (D := D') hD E).2 hE
    rw [← e1, ← e2] at a
    have b := (isE_scale (N := N) (D := D) hD' E).1 a
    rw [h.2 hN E b]
    have q1 := rup_scale (N := N) (D := D) hD' hD E
    have q2 := rup_scale (N := N') (D := D') hD hD' E
    rw [e1, e2, q2] at q1
    rw [q1]
theorem two_lt {a b : Nat} (h : (2 : Nat) ^ a < 2 ^ b) : a < b := (Nat.pow_lt_pow_iff_right (by omega)).1 h
theorem NB.high {N D : Nat} (k : Nat) (hk : 1100 < k) (hD : 0 < D) (h : D * 2 ^ k ≤ N) : NB N D 9218868437227405312 := by
  have hN : 0 < N := Nat.lt_of_lt_of_le (Nat.mul_pos hD (Nat.two_pow_pos _)) h
  refine ⟨fun h0 => by clear h; omega, fun _ E hE => (far_high hN hD ?_ hE).symm⟩
  have a := (sz_ge hD)
  have b := sz_lt N
  have c : 2 ^ (sz D - 1 + k) < 2 ^ sz N := by
    rw [Nat.pow_add]
    exact Nat.lt_of_le_of_lt (Nat.le_trans (Nat.mul_le_mul_right _ a.1) h) b
  have d := two_lt c
  have e := a.2
  clear a b c h
  omega
theorem NB.low {N D : Nat} (k : Nat) (hk : 1100 < k) (hD : 0 < D) (h : N * 2 ^ k ≤ D) : NB N D 0 := by
  refine ⟨fun _ => rfl, fun hN E hE => (far_low hD ?_ hE).symm⟩
  have a := (sz_ge hN)
  have b := sz_lt D
  have c : 2 ^ (sz N - 1 + k) < 2 ^ sz D := by
    rw [Nat.pow_add]
    exact Nat.lt_of_le_of_lt (Nat.le_trans (Nat.mul_le_mul_right _ a.1) h) b
  have d := two_lt c
  have e := a.2
  clear a b c h
  omega
/-- Noughts behind. -/
theorem tr0_split (l : List UInt8) : ∃ q, l = tr0 l ++ List.replicate q 48 := by
  have h := List.takeWhile_append_dropWhile (p := fun b : UInt8 => b == 48) (l := l.reverse)
  have hr : l = (l.reverse.dropWhile fun b : UInt8 => b == 48).reverse ++ (l.reverse.takeWhile fun b : UInt8 => b == 48).reverse := by
    rw [← List.reverse_append, h, List.reverse_reverse]
  have ha : ∀ b ∈ (l.reverse.takeWhile fun b : UInt8 => b == 48), b = 48 := by
    intro b hb
    have := tw_all (fun b : UInt8 => b == 48) l.reverse b hb
    simpa using this
  refine ⟨(l.reverse.takeWhile fun b : UInt8 => b == 48).length, ?_⟩
  have e : (l.reverse.takeWhile fun b : UInt8 => b == 48).reverse = List.replicate (l.reverse.takeWhile fun b : UInt8 => b == 48).length 48 := by
    rw [List.eq_replicate_iff]
    refine ⟨by simp, ?_⟩
    intro b hb
    exact ha b (by simpa using hb)
  rw [← e]
  exact hr
/-- A decimal's digits: without the noughts at both ends. -/
theorem dec_parts {l : List UInt8} (hd : allD l) : ∃ q : Nat, (tl0 l).length = (tr0 (tl0 l)).length + q ∧ nat l = nat (tr0 (tl0 l)) * 10 ^ q ∧ (tr0 (tl0 l) = [] → nat l = 0) ∧ (tr0 (tl0 l) ≠ [] → 0 < nat (tr0 (tl0 l)) ∧ 10 ^ ((tr0 (tl0 l)).length - 1) ≤ nat (tr0 (tl0 l))) ∧ allD (tr0 (tl0 l)) ∧ nat (tr0 (tl0 l)) < 10 ^ (tr0 (tl0 l)).length := by
  obtain ⟨q, hq⟩ := tr0_split (tl0 l)
  have hdt := tl0_allD hd
  have h1 : nat l = nat (tr0 (tl0 l)) * 10 ^ q := by
    rw [← tl0_nat l]
    have := nat_append (tr0 (tl0 l)) (List.replicate q 48)
    rw [← hq, nat_zeros, List.length_replicate, Nat.add_zero] at this
    exact this
  have hl : (tl0 l).length = (tr0 (tl0 l)).length + q := by
    have := congrArg List.length hq
    rw [List.length_append, List.length_replicate] at this
    exact this
  have hds : allD (tr0 (tl0 l)) := by
    intro x hx
    apply hdt
    rw [hq]
    exact List.mem_append_left _ hx
  refine ⟨q, hl, h1, ?_, ?_, hds, nat_lt hds⟩
  · intro e
    rw [h1, e]
    simp [nat]
  · intro hne
    have hne2 : tl0 l ≠ [] := by
      intro e
      rw [e] at hne
      exact hne rfl
    have hge := tl0_ge hd hne2
    rw [h1, hl] at hge
    have hlen : 0 < (tr0 (tl0 l)).length := List.length_pos_iff.2 hne
    rw [show (tr0 (tl0 l)).length + q - 1 = (tr0 (tl0 l)).length - 1 + q by omega, Nat.pow_add] at hge
    have h2 := Nat.le_of_mul_le_mul_right hge (Nat.pow_pos (by omega))
    exact ⟨Nat.lt_of_lt_of_le (Nat.pow_pos (by omega)) h2, h2⟩
/-- Beyond all numbers, or below. -/
theorem dec_high {S L : Nat} {p : Int} (k : Nat) (hk : 1100 < k) (h1 : 10 ^ (L - 1) ≤ S) (hL : 0 < L) (hp : (k : Int) < (L : Int) + p) : NB (S * 10 ^ p.toNat) (10 ^ (-p).toNat) 9218868437227405312 := by
  apply NB.high k hk (Nat.pow_pos (by omega))
  have a : 10 ^ (-p).toNat * 2 ^ k ≤ 10 ^ (-p).toNat * 10 ^ k := Nat.mul_le_mul_left _ (Nat.pow_le_pow_left (by omega) k)
  have b : 10 ^ (-p).toNat * 10 ^ k ≤ 10 ^ (L - 1) * 10 ^ p.toNat := by
    rw [← Nat.pow_add, ← Nat.pow_add]
    exact Nat.pow_le_pow_right (by omega) (by clear h1 a; omega)
  exact Nat.le_trans a (Nat.le_trans b (Nat.mul_le_mul_right _ h1))
theorem dec_low {S L : Nat} {p : Int} (k : Nat) (hk : 1100 < k) (h1 : S < 10 ^ L) (hp : (L : Int) + p ≤ -(k : Int)) : NB (S * 10 ^ p.toNat) (10 ^ (-p).toNat) 0 := by
  apply NB.low k hk (Nat.pow_pos (by omega))
  have hz : p.toNat = 0 := by clear h1; omega
  rw [hz, Nat.pow_zero, Nat.mul_one]
  have a : S * 2 ^ k ≤ 10 ^ L * 10 ^ k := Nat.mul_le_mul (Nat.le_of_lt h1) (Nat.pow_le_pow_left (by omega) k)
  refine Nat.le_trans a ?_
  rw [← Nat.pow_add]
  exact Nat.pow_le_pow_right (by omega) (by clear h1 a; omega)
/-- The point and the noughts moved. -/
theorem NB.moved {S q : Nat} {P p : Int} {x : Nat} (hp : p = P + (q : Int)) (h : NB (S * 10 ^ p.toNat) (10 ^ (-p).toNat) x) : NB (S * 10 ^ q * 10 ^ P.toNat) (10 ^ (-P).toNat) x := by
  refine h.same (Nat.pow_pos (by omega)) (Nat.pow_pos (by omega)) ?_
  rw [Nat.mul_assoc, Nat.mul_assoc, Nat.mul_assoc, ← Nat.pow_add, ← Nat.pow_add, ← Nat.pow_add]
  rw [show p.toNat + (-P).toNat = q + (P.toNat + (-p).toNat) by omega]
end Go.Proofs.YtpdjpjkieafnbaaGreatDoor.Li
set_option linter.unusedVariables false
set_option linter.unusedSimpArgs false
namespace Go.Proofs.YtpdjpjkieafnbaaGreatDoor.Li
open Go.RowKit Lb Nr
theorem Up_lv (v : Value) (n : Nat) (w : World) (h : Lv w v 1 2) (hn : n ≤ 20000) : Calls Tryz.prog 106 #[v, .int .i64 (n : Int)] w fun e w' => ∃ u, e = .returned (.tuple #[u, .int .i64 0]) ∧ Lv w' u (2 ^ n) 2001 ∧ Keep w w' := by
  obtain ⟨a, c, l, rfl, p1, p2, p3, p4, p5⟩ := h
  refine (Up_any a c n l w p1 (by omega) (by omega) p3 p4).mono ?_
  rintro e w' ⟨u, rfl, hu, k⟩
  rw [p5, Nat.one_mul] at hu
  refine ⟨u, rfl, hu.lv ?_, k⟩
  obtain ⟨K, hK⟩ : ∃ K, K = 2001 := ⟨_, rfl⟩
  have e1 := pow_small n (K - 1) (by omega)
  have e2 : 4294967296 ^ (K - 1) < 4294967296 ^ K := Nat.pow_lt_pow_right (by omega) (by omega)
  rw [← hK]
  exact Nat.lt_of_le_of_lt e1 e2
set_option maxRecDepth 100000 in
set_option maxHeartbeats 400000 in
theorem basePower_hex (ng pn : Bool) (wh pt ds : List UInt8) (n : Nat) (w : World) (hn : n ≤ 20000) :
    Calls Tryz.prog 139 #[.agg #[.bool ng, .bool true, .string ⟨wh.toArray⟩, .string ⟨pt.toArray⟩, .bool pn, .string ⟨ds.toArray⟩], .int .i64 (n : Int)] w fun e w' => ∃ v, e = .returned v ∧ Lv w' v (2 ^ n) 2001 ∧ Keep w w' := by
  have hF := fun wx => From_lv 1 wx (by omega)
  have hP := fun v wx (h : Lv wx v 1 2) => Up_lv v n wx h hn
  generalize 2 ^ n = N at *
  obtain ⟨wb, hwb⟩ : ∃ wb, w.alloc (.cells #[.bool ng, .bool true, .string ⟨wh.toArray⟩, .string ⟨pt.toArray⟩, .bool pn, .string ⟨ds.toArray⟩] 129) = wb := ⟨_, rfl⟩
  have c1 : wb.cell? ⟨w.heap.size, 1, none⟩ = some (.bool true) := by rw [← hwb, (Sp.new w _).cell]; rfl
  have HK : Hid (Keep w wb) := by unfold Hid; rw [← hwb]; exact (Keep.refl w).alloc _
  go_enter Tryz.func139, Tryz.ntmps139
  go_wp2_with fail
  refine (hF _).mono ?_
  rintro e w2 ⟨v, rfl, hv, k2⟩
  go_wp2_with fail
  refine (hP v _ hv).mono ?_
  rintro e w3 ⟨u, rfl, hu, k3⟩
  go_wp2_with fail
  go_ret
  exact ⟨u, rfl, hu, (HK.out.trans k2).trans k3⟩
end Go.Proofs.YtpdjpjkieafnbaaGreatDoor.Li
