import Derived.Test.YtpdjpjkieafnbaaGreatDoorR4
import Derived.Test.YtpdjpjkieafnbaaGreatDoorLBase
import Derived.Test.YtpdjpjkieafnbaaGreatDoorR12
import Derived.Test.YtpdjpjkieafnbaaGreatDoorLE3
set_option linter.unusedVariables false
set_option linter.unusedSimpArgs false
namespace Go.Proofs.YtpdjpjkieafnbaaGreatDoor.Li
open Lb
/-- What a hexadecimal digit says; what a row of them says. -/
def hv (b : UInt8) : Nat := (dgO b.toNat).toNat
def hnat (l : List UInt8) : Nat := l.foldl (fun n b => n * 16 + hv b) 0
def allX (l : List UInt8) : Prop := ∀ b ∈ l, isX true b = true
theorem dgO_lt (r : Nat) : dgO r < 16 := by
  unfold dgO
  (repeat' split) <;> omega
theorem hv_of {b : UInt8} (h : isX true b = true) : dgO b.toNat = (hv b : Int) ∧ hv b < 16 := by
  have h1 : 0 ≤ dgO b.toNat := by
    unfold isX at h
    simpa using h
  have := dgO_lt b.toNat
  unfold hv
  omega
theorem hfold (l : List UInt8) (n : Nat) : l.foldl (fun n b => n * 16 + hv b) n = n * 16 ^ l.length + hnat l := by
  unfold hnat
  induction l generalizing n with
  | nil => simp
  | cons b l ih =>
    rw [List.foldl_cons, List.foldl_cons, ih, ih (0 * 16 + hv b), List.length_cons, Nat.pow_succ]
    rw [Nat.zero_mul, Nat.zero_add, Nat.add_mul, Nat.mul_assoc, Nat.mul_comm 16, Nat.add_assoc]
theorem hnat_cons (b : UInt8) (l : List UInt8) : hnat (b :: l) = hv b * 16 ^ l.length + hnat l := by
  show List.foldl _ (0 * 16 + hv b) l = _
  rw [hfold, Nat.zero_mul, Nat.zero_add]
theorem hnat_append (a b : List UInt8) : hnat (a ++ b) = hnat a * 16 ^ b.length + hnat b := by
  show List.foldl _ 0 (a ++ b) = _
  rw [List.foldl_append, hfold]
  rfl
theorem hnat_lt {l : List UInt8} (h : allX l) : hnat l < 16 ^ l.length := by
  induction l with
  | nil => show 0 < 1; omega
  | cons b l ih =>
    rw [hnat_cons, List.length_cons, Nat.pow_succ]
    have h1 := (hv_of (h b (List.mem_cons_self ..))).2
    have h2 := ih (fun x hx => h x (List.mem_cons_of_mem _ hx))
    have h3 : hv b * 16 ^ l.length ≤ 15 * 16 ^ l.length := Nat.mul_le_mul_right _ (by omega)
    generalize 16 ^ l.length = Z at *
    omega
/-- The last digits, one more. -/
theorem hnat_last (l : List UInt8) (i : Nat) (h : i < l.length) : hnat (l.drop (l.length - (i + 1))) = hv (l.getD (l.length - 1 - i) 0) * 16 ^ i + hnat (l.drop (l.length - i)) := by
  have h1 : l.length - (i + 1) < l.length := by omega
  rw [List.drop_eq_getElem_cons h1, hnat_cons, List.length_drop, show l.length - (i + 1) + 1 = l.length - i by omega, show l.length - (l.length - i) = i by omega]
  congr 2
  simp [List.getD, show l.length - 1 - i = l.length - (i + 1) by omega, h1]
/-- A limb is filled: what stands there, and a digit more. -/
theorem or_shift (a d k : Nat) (ha : a < 2 ^ k) : a ||| (d * 2 ^ k) = a + d * 2 ^ k := by
  rw [Nat.or_comm, Nat.mul_comm d, ← Nat.two_pow_add_eq_or_of_lt ha, Nat.add_comm]
/-- The row after one digit more. -/
theorem val_put (r : List Nat) (q : Nat) (hq : q < r.length) (v : Nat) : val (r.set q (r.getD q 0 + v)) = val r + v * 4294967296 ^ q := by
  induction r generalizing q with
  | nil => simp at hq
  | cons x r ih =>
    cases q with
    | zero =>
      simp [val]
      omega
    | succ q =>
      have h := ih q (by simpa using hq)
      simp only [List.set_cons_succ, List.getD_cons_succ, val]
      rw [h, Nat.pow_succ, Nat.mul_add]
      have : 4294967296 * (v * 4294967296 ^ q) = v * (4294967296 ^ q * 4294967296) := by
        rw [Nat.mul_left_comm, Nat.mul_comm 4294967296]
      omega
end Go.Proofs.YtpdjpjkieafnbaaGreatDoor.Li
set_option linter.unusedVariables false
set_option linter.unusedSimpArgs false
namespace Go.Proofs.YtpdjpjkieafnbaaGreatDoor.Li
open Go.RowKit Lb Nr
theorem val_limb (r : List Nat) (q : Nat) : r.getD q 0 * 4294967296 ^ q ≤ val r := by
  induction r generalizing q with
  | nil => simp [val]
  | cons x r ih =>
    cases q with
    | zero => simp [val]
    | succ q =>
      have h := ih q
      simp only [List.getD_cons_succ, val]
      rw [Nat.pow_succ, ← Nat.mul_assoc, Nat.mul_comm _ 4294967296]
      have := Nat.mul_le_mul_left 4294967296 h
      omega
theorem limb_lt {r : List Nat} {i : Nat} (h : val r < 16 ^ i) : r.getD (i / 8) 0 < 2 ^ (4 * (i % 8)) := by
  have h1 := val_limb r (i / 8)
  have e : (16 : Nat) ^ i = 2 ^ (4 * (i % 8)) * 4294967296 ^ (i / 8) := by
    rw [show (16 : Nat) = 2 ^ 4 from rfl, show (4294967296 : Nat) = 2 ^ 32 from rfl, ← Nat.pow_mul, ← Nat.pow_mul, ← Nat.pow_add]
    congr 1
    omega
  rw [e] at h
  exact Nat.lt_of_mul_lt_mul_right (Nat.lt_of_le_of_lt h1 h)
theorem dig_place (d i : Nat) : d * 2 ^ (4 * (i % 8)) * 4294967296 ^ (i / 8) = d * 16 ^ i := by
  rw [Nat.mul_assoc]
  congr 1
  rw [show (16 : Nat) = 2 ^ 4 from rfl, show (4294967296 : Nat) = 2 ^ 32 from rfl, ← Nat.pow_mul, ← Nat.pow_mul, ← Nat.pow_add]
  congr 1
  omega
theorem limb_add {a d k : Nat} (ha : a < 2 ^ (4 * k)) (hd : d < 16) (hk : k < 8) : a + d * 2 ^ (4 * k) < 4294967296 ∧ d * 2 ^ (4 * k) < 4294967296 := by
  have h1 : d * 2 ^ (4 * k) ≤ 15 * 2 ^ (4 * k) := Nat.mul_le_mul_right _ (by omega)
  have h2 : (2 : Nat) ^ (4 * k) ≤ 2 ^ 28 := Nat.pow_le_pow_right (by omega) (by omega)
  have h3 : (2 : Nat) ^ 28 = 268435456 := rfl
  generalize (2 : Nat) ^ (4 * k) = P at *
  omega
set_option maxRecDepth 100000 in
set_option maxHeartbeats 4000000 in
theorem natural_hex (ng pn : Bool) (wh pt ds l : List UInt8) (w : World) (hd : allX l) (hl : l.length ≤ 16000) :
    Calls Tryz.prog 138 #[.agg #[.bool ng, .bool true, .string ⟨wh.toArray⟩, .string ⟨pt.toArray⟩, .bool pn, .string ⟨ds.toArray⟩], .string ⟨l.toArray⟩] w fun e w' => ∃ v, e = .returned v ∧ Lv w' v (hnat l) 2001 ∧ Keep w w' := by
  obtain ⟨wb, hwb⟩ : ∃ wb, w.alloc (.cells #[.bool ng, .bool true, .string ⟨wh.toArray⟩, .string ⟨pt.toArray⟩, .bool pn, .string ⟨ds.toArray⟩] 129) = wb := ⟨_, rfl⟩
  have c1 : wb.cell? ⟨w.heap.size, 1, none⟩ = some (.bool true) := by rw [← hwb, (Sp.new w _).cell]; rfl
  have HK : Hid (Keep w wb) := by unfold Hid; rw [← hwb]; exact (Keep.refl w).alloc _
  have hsz : (ByteArray.mk l.toArray).size = l.length := sz_mk l
  obtain ⟨K, hK⟩ : ∃ K, l.length / 8 + 1 = K := ⟨_, rfl⟩
  have hdiv : Int.tdiv (l.length : Int) 8 = ((l.length / 8 : Nat) : Int) := by rw [Int.ofNat_tdiv]; rfl
  have hw1 : IntKind.i64.wrap (((l.length / 8 : Nat) : Int) + 1) = (K : Int) := by rw [IntWalk.i64_left, ← hK]; exact IntWalk.wrap64_in _ (by omega)
  have hK2 : K ≤ 2001 := by omega
  have HL : Hid (l.length / 8 + 1 = K) := hK
  have hW2 : ((l.length / 8 : Nat) : Int) + 1 = (K : Int) := by omega
  obtain ⟨L8, hL8⟩ : ∃ L8, l.length / 8 = L8 := ⟨_, rfl⟩
  rw [hL8] at hdiv hw1 hW2
  clear hK hL8
  go_enter Tryz.func138, Tryz.ntmps138
  go_wp2_with (at_make; refine wpList_make32 _ rfl _ _ rfl _ _ _ _ K rfl rfl ?_ ?_ (by omega) ?_; rotate_left; rotate_left; intro w1 hrow hk hsz1)
  rotate_left 1
  · rfl
  · rfl
  have hz0 : val (List.replicate K 0) = 0 := by
    clear hK2 hw1 HL hW2 hrow hk hsz1
    induction K with
    | zero => rfl
    | succ K ih => rw [List.replicate_succ]; simp [val, ih]
  obtain ⟨g, hg⟩ : ∃ g, wb.heap.size = g := ⟨_, rfl⟩
  rw [hg] at hrow ⊢
  have hgw : Hid (w.heap.size ≤ g) := by have := HK.out.le; unfold Hid; omega
  have HK1 : Hid (Keep w w1) := HK.out.trans hk
  have Hrow : Hid (Row w1 g (List.replicate K 0) ∧ val (List.replicate K 0) = 0) := ⟨hrow, hz0⟩
  clear hrow hk hz0 c1
  go_loopw [27] (fun v27 wr => ∃ (i : Nat) (r : List Nat), i ≤ l.length ∧ v27 = .int .i64 (i : Int) ∧ Row wr g r ∧ r.length = K ∧ Hid (Lim r ∧ val r = hnat (l.drop (l.length - i))) ∧ Keep w wr) (fun v27 _ => l.length - (intOf v27).toNat)
  case atStart =>
    refine ⟨0, List.replicate K 0, Nat.zero_le _, rfl, Hrow.out.1, by simp, ⟨?_, ?_⟩, HK1.out⟩
    · intro x hx
      rw [(List.mem_replicate.1 hx).2]
      omega
    · rw [Hrow.out.2, Nat.sub_zero, List.drop_length]
      rfl
  case round =>
    obtain ⟨i, r, hi, rfl, hr, hrK, hrv, kr⟩ := hrel
    by_cases hil : i < l.length
    · have hltI : (i : Int) < (l.length : Int) := by omega
      have hall : allX (l.drop (l.length - i)) := fun b hb => hd b (List.mem_of_mem_drop hb)
      have hvl : val r < 16 ^ i := by
        have := hnat_lt hall
        rw [List.length_drop, show l.length - (l.length - i) = i by omega] at this
        rw [hrv.out.2]
        exact this
      have hql : i / 8 < r.length := by have := HL.out; omega
      have hcell := hr.cell (i / 8) hql
      have hfr := hr.frozen (i / 8)
      have hlim := limb_lt hvl
      have hmem : l.getD (l.length - 1 - i) 0 ∈ l := by
        have h1 : l.length - 1 - i < l.length := by omega
        simp only [List.getD, List.getElem?_eq_getElem h1, Option.getD_some]
        exact List.getElem_mem h1
      obtain ⟨hdv, hdl⟩ := hv_of (hd _ hmem)
      have hnx := hnat_last l i hil
      have hixI := fun wx => run_ix l (l.length - 1 - i) (by omega) wx
      have hdg := fun wx => digitOf_any (l.getD (l.length - 1 - i) 0).toNat (by have := (l.getD (l.length - 1 - i) 0).toNat_lt; omega) wx
      have hb8 := (l.getD (l.length - 1 - i) 0).toNat_lt
      rw [hdv] at hdg
      obtain ⟨old, hold⟩ : ∃ old, r.getD (i / 8) 0 = old := ⟨_, rfl⟩
      obtain ⟨d, hdd⟩ : ∃ d, hv (l.getD (l.length - 1 - i) 0) = d := ⟨_, rfl⟩
      obtain ⟨bb, hbb⟩ : ∃ bb, (l.getD (l.length - 1 - i) 0).toNat = bb := ⟨_, rfl⟩
      rw [hold] at hcell hlim
      rw [hdd] at hdl hdg hnx
      rw [hbb] at hixI hdg hb8
      obtain ⟨hsum, hprod⟩ := limb_add (k := i % 8) hlim hdl (Nat.mod_lt _ (by omega))
      have hor := or_shift old d (4 * (i % 8)) hlim
      have hnew := val_put r (i / 8) hql (d * 2 ^ (4 * (i % 8)))
      rw [hold, dig_place] at hnew
      obtain ⟨q, hq⟩ : ∃ q, i / 8 = q := ⟨_, rfl⟩
      obtain ⟨k, hk⟩ : ∃ k, i % 8 = k := ⟨_, rfl⟩
      rw [hq] at hcell hfr hql hnew
      rw [hk] at hsum hprod hor hnew
      obtain ⟨P, hP⟩ : ∃ P, d * 2 ^ (4 * k) = P := ⟨_, rfl⟩
      rw [hP] at hsum hprod hor hnew
      have hquo : Int.tdiv (i : Int) 8 = (q : Int) := by rw [← hq, Int.ofNat_tdiv]; rfl
      have hrem : Int.tmod (i : Int) 8 = (k : Int) := by rw [← hk, Int.ofNat_tmod]; rfl
      have hk8 : k < 8 := by omega
      have hquo2 : (i : Int) / 8 = (q : Int) := by omega
      have hrem2 : (i : Int) % 8 = (k : Int) := by omega
      have HP : Hid (d * 2 ^ (4 * k) = P) := hP
      have hsub1 : ((l.length : Int) - 1 - (i : Int)) = ((l.length - 1 - i : Nat) : Int) := by omega
      have HV : Hid (val (r.set q (old + P)) = hnat (l.drop (l.length - (i + 1)))) := by
        unfold Hid
        rw [hnew, hnx, hrv.out.2]
        rw [Nat.add_comm]
      have horI : bits .or .u32 (old : Int) (P : Int) = ((old + P : Nat) : Int) := by rw [u32_or_nat old P (by omega) hprod, hor]
      clear hP hall hvl hlim hmem hdv hnx hold hdd hbb hor hnew
      have hqK : (q : Int) < (K : Int) := by omega
      have hq0 : (0 : Int) ≤ (q : Int) := by omega
      have hqN : q < K := by omega
      have hj0 : (0 : Int) ≤ ((l.length - 1 - i : Nat) : Int) := by omega
      have hj1 : ((l.length - 1 - i : Nat) : Int) < (l.length : Int) := by omega
      have hwq : IntKind.i64.wrap (q : Int) = (q : Int) := by rw [IntWalk.i64_left]; exact IntWalk.wrap64_in _ (by omega)
      have hwl1 : IntKind.i64.wrap ((l.length : Int) - 1) = (l.length : Int) - 1 := by rw [IntWalk.i64_left]; exact IntWalk.wrap64_in _ (by omega)
      have hwl2 : IntKind.i64.wrap ((l.length : Int) - 1 - (i : Int)) = ((l.length - 1 - i : Nat) : Int) := by rw [hsub1, IntWalk.i64_left]; exact IntWalk.wrap64_in _ (by omega)
      have hw4 : IntKind.i64.wrap (4 * (k : Int)) = ((4 * k : Nat) : Int) := by rw [show 4 * (k : Int) = ((4 * k : Nat) : Int) by omega, IntWalk.i64_left]; exact IntWalk.wrap64_in _ (by omega)
      have hwb8 : IntKind.i32.wrap (bb : Int) = (bb : Int) := i32_small (by omega)
      have hwd : IntKind.u32.wrap (d : Int) = (d : Int) := by rw [IntKind.wrap_u32]; omega
      obtain ⟨jj, hjj⟩ : ∃ jj, l.length - 1 - i = jj := ⟨_, rfl⟩
      obtain ⟨k4, hk4⟩ : ∃ k4, 4 * k = k4 := ⟨_, rfl⟩
      rw [hjj] at hwl2 hixI hj0 hj1 hsub1
      rw [hk4] at hw4 HP
      have hshl : IntKind.u32.wrap ((d : Int) * 2 ^ k4) = (P : Int) := by
        have e : (d : Int) * 2 ^ k4 = (P : Int) := by rw [← HP.out]; push_cast; rfl
        rw [e, IntKind.wrap_u32]
        omega
      clear hsub1 hjj hq hk
      go_upto_region 8 with fail
      go_region_with (first | (go_at_call 168; refine (hdg _).mono ?_; rintro e wz ⟨rfl, hz⟩; rw [hz]; clear hz))
      all_goals
        go_wp2_with fail
        go_roundw
        case rel =>
          refine ⟨i + 1, r.set q (old + P), by omega, by go_num, ?_, by rw [List.length_set]; exact hrK, ⟨?_, HV.out⟩, ?_⟩
          · first
              | exact hr.set q (old + P)
              | exact (hr.set q (old + P)).drewN 1
          · intro x hx
            rcases List.mem_or_eq_of_mem_set hx with h | h
            · exact hrv.out.1 x h
            · rw [h]; exact hsum
          · first
              | exact kr.setCell (p := ⟨g, q, none⟩) hgw.out _
              | exact (kr.setCell (p := ⟨g, q, none⟩) hgw.out _).drew
              | exact kr.drew.setCell (p := ⟨g, q, none⟩) hgw.out _
              | exact (kr.drew.setCell (p := ⟨g, q, none⟩) hgw.out _).drew
        case measure => simp [intOf]; omega
    · have hltI : ¬ (i : Int) < (l.length : Int) := by omega
      have hie : i = l.length := by omega
      have Hfin : Hid (Lv wr (.slice (some ⟨g, 0, none⟩) K K) (hnat l) 2001) := by
        refine ⟨some ⟨g, 0, none⟩, K, r, by rw [hrK], by omega, by omega, ?_, hrv.out.1, ?_⟩
        · have := hr.rd 0 r.length (by omega)
          simpa using this
        · rw [hrv.out.2, hie, Nat.sub_self, List.drop_zero]
      clear hrv hie
      go_wp2_with fail
      go_ret
      exact ⟨_, rfl, Hfin.out, kr⟩
end Go.Proofs.YtpdjpjkieafnbaaGreatDoor.Li
set_option linter.unusedVariables false
set_option linter.unusedSimpArgs false
namespace Go.Proofs.YtpdjpjkieafnbaaGreatDoor.Li
open Go.RowKit Lb Nr
theorem Up_lv (v : Value) (n : Nat) (w : World) (h : Lv w v 1 2) (hn : n ≤ 20000) : Calls Tryz.prog 106 #[v, .int .i64 (n : Int)] w fun e w' => ∃ u, e = .returned (.tuple #[u, .int .i64 0]) ∧ Lv w' u (2 ^ n) 2001 ∧ Keep w w' := by
  obtain ⟨a, c, l, rfl, p1, p2, p3, p4, p5⟩ := h
  refine (Up_any a c n l w p1 (by omega) (by omega) p3 p4).mono ?_
  rintro e w' ⟨u, rfl, hu, k⟩
  rw [p5, Nat.one_mul] at hu
  refine ⟨u, rfl, hu.lv ?_, k⟩
  obtain ⟨K, hK⟩ : ∃ K, K = 2001 := ⟨_, rfl⟩
  have e1 := pow_small n (K - 1) (by omega)
  have e2 : 4294967296 ^ (K - 1) < 4294967296 ^ K := Nat.pow_lt_pow_right (by omega) (by omega)
  rw [← hK]
  exact Nat.lt_of_le_of_lt e1 e2
set_option maxRecDepth 100000 in
set_option maxHeartbeats 400000 in
theorem basePower_hex (ng pn : Bool) (wh pt ds : List UInt8) (n : Nat) (w : World) (hn : n ≤ 20000) :
    Calls Tryz.prog 139 #[.agg #[.bool ng, .bool true, .string ⟨wh.toArray⟩, .string ⟨pt.toArray⟩, .bool pn, .string ⟨ds.toArray⟩], .int .i64 (n : Int)] w fun e w' => ∃ v, e = .returned v ∧ Lv w' v (2 ^ n) 2001 ∧ Keep w w' := by
  have hF := fun wx => From_lv 1 wx (by omega)
  have hP := fun v wx (h : Lv wx v 1 2) => Up_lv v n wx h hn
  generalize 2 ^ n = N at *
  obtain ⟨wb, hwb⟩ : ∃ wb, w.alloc (.cells #[.bool ng, .bool true, .string ⟨wh.toArray⟩, .string ⟨pt.toArray⟩, .bool pn, .string ⟨ds.toArray⟩] 129) = wb := ⟨_, rfl⟩
  have c1 : wb.cell? ⟨w.heap.size, 1, none⟩ = some (.bool true) := by rw [← hwb, (Sp.new w _).cell]; rfl
  have HK : Hid (Keep w wb) := by unfold Hid; rw [← hwb]; exact (Keep.refl w).alloc _
  go_enter Tryz.func139, Tryz.ntmps139
  go_wp2_with fail
  refine (hF _).mono ?_
  rintro e w2 ⟨v, rfl, hv, k2⟩
  go_wp2_with fail
  refine (hP v _ hv).mono ?_
  rintro e w3 ⟨u, rfl, hu, k3⟩
  go_wp2_with fail
  go_ret
  exact ⟨u, rfl, hu, (HK.out.trans k2).trans k3⟩
end Go.Proofs.YtpdjpjkieafnbaaGreatDoor.Li
