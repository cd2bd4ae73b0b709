import Derived.Test.YtpdjpjkieafnbaaGreatDoorR10
import Derived.Test.YtpdjpjkieafnbaaGreatDoorNC4
import Derived.Test.YtpdjpjkieafnbaaGreatDoorLE7
import Derived.Test.YtpdjpjkieafnbaaGreatDoorLD6
import Derived.Test.YtpdjpjkieafnbaaGreatDoorMF9
import Derived.Test.YtpdjpjkieafnbaaGreatDoorNC3
set_option linter.unusedVariables false
set_option linter.unusedSimpArgs false
namespace Go.Proofs.YtpdjpjkieafnbaaGreatDoor.Li
open Go.RowKit Lb Nr
theorem Lv.more {w : World} {v : Value} {n K K' : Nat} (h : Lv w v n K) (hk : K ≤ K') : Lv w v n K' := by
  obtain ⟨a, c, l, e, h1, h2, h3⟩ := h
  exact ⟨a, c, l, e, h1, by omega, h3⟩
theorem From_lv (n : Nat) (w : World) (hn : n < 18446744073709551616) : Calls Tryz.prog 69 #[.int .u64 (n : Nat)] w fun e w' => ∃ v, e = .returned v ∧ Lv w' v n 2 ∧ Keep w w' := by
  refine (From_any n w hn).mono ?_
  rintro e w' ⟨v, l, rfl, h1, h2, h3, h4, k⟩
  exact ⟨v, rfl, NatR.lv (B := w.heap.size) ⟨l, h1, h2, h3, h4⟩ (by show n < 18446744073709551616; exact hn), k⟩
theorem Mul_lv (v1 v2 : Value) (n m K K' : Nat) (w : World) (h1 : Lv w v1 n K) (h2 : Lv w v2 m K) (hK : K ≤ 35184372088000) (hm : n * m < 4294967296 ^ K') : Calls Tryz.prog 108 #[v1, v2] w fun e w' => ∃ v, e = .returned v ∧ Lv w' v (n * m) K' ∧ Keep w w' := by
  obtain ⟨a, c, l, rfl, p1, p2, p3, p4, p5⟩ := h1
  obtain ⟨b, d, r, rfl, q1, q2, q3, q4, q5⟩ := h2
  refine (Mul_any a b c d l r w p1 q1 (by omega) (by omega) p3 q3 p4 q4).mono ?_
  rintro e w' ⟨v, rfl, hv, k⟩
  rw [p5, q5] at hv
  exact ⟨v, rfl, hv.natR.lv hm, k⟩
/-- Powers of ten. -/
theorem Pow10_lv (v : Value) (n : Nat) (w : World) (h : Lv w v 10 2) (hn : n ≤ 16000) : Calls Tryz.prog 39 #[v, .int .i64 (n : Int)] w fun e w' => ∃ u, e = .returned (.tuple #[u, .int .i64 0]) ∧ Lv w' u (10 ^ n) 2001 ∧ Keep w w' := by
  obtain ⟨K, hK⟩ : ∃ K, K = 2001 := ⟨_, rfl⟩
  rw [← hK]
  obtain ⟨a, c, l, rfl, p1, p2, p3, p4, p5⟩ := h
  have hL : lenB l = 4 := by
    rw [lenB_sz p4, p5]
    decide
  have e1 : powE l (n : Int) = 0 := by
    unfold powE
    rw [if_neg (by omega), hL, if_neg (by omega)]
  have e2 : powV l (n : Int) = 10 ^ n := by
    unfold powV
    rw [if_neg (by omega), hL, if_neg (by omega), p5]
    rfl
  refine (Pow_any a c (n : Int) l w p1 (by omega) p3 p4).mono ?_
  rintro e w' ⟨a', c', l', rfl, q1, q2, q3, q4, q5, k⟩
  rw [e1]
  rw [e2] at q5
  refine ⟨_, rfl, ⟨a', c', l', rfl, q1, len_of q4 ?_, q2, q3, q5⟩, k⟩
  rw [q5]
  have h1 : 10 ^ n ≤ 16 ^ n := Nat.pow_le_pow_left (by omega) n
  have h2 : (16 : Nat) ^ n = 2 ^ (4 * n) := by rw [Nat.pow_mul]
  have h3 := pow_small (4 * n) (K - 1) (by omega)
  have h4 : 4294967296 ^ (K - 1) < 4294967296 ^ K := Nat.pow_lt_pow_right (by omega) (by omega)
  rw [h2] at h1
  exact Nat.lt_of_le_of_lt (Nat.le_trans h1 h3) h4
/-- What decimal digits say. -/
theorem numv_nat (l : List UInt8) : numv (l.map UInt8.toNat) = nat l := by
  unfold numv nat
  rw [List.foldl_map]
  congr 1
  funext a b
  unfold dv
  omega
theorem S8_mk (l : List UInt8) : S8 (l.map UInt8.toNat) = ⟨l.toArray⟩ := by
  unfold S8
  congr 1
  rw [List.map_map]
  have : (UInt8.ofNat ∘ UInt8.toNat) = id := by funext x; simp
  rw [this, List.map_id]
theorem nat_room {l : List UInt8} (hd : allD l) (hl : l.length ≤ 16000) (K : Nat) (hK : 2001 ≤ K) : nat l < 4294967296 ^ K := by
  have h0 := nat_lt hd
  have h1 : 10 ^ l.length ≤ 16 ^ l.length := Nat.pow_le_pow_left (by omega) _
  have h2 : (16 : Nat) ^ l.length = 2 ^ (4 * l.length) := by rw [Nat.pow_mul]
  have h3 := pow_small (4 * l.length) (K - 1) (by omega)
  have h4 : 4294967296 ^ (K - 1) < 4294967296 ^ K := Nat.pow_lt_pow_right (by omega) (by omega)
  rw [h2] at h1
  exact Nat.lt_trans h0 (Nat.lt_of_le_of_lt (Nat.le_trans h1 h3) h4)
theorem Read_lv (l : List UInt8) (w : World) (hd : allD l) (h0 : l ≠ []) (hl : l.length ≤ 16000) : Calls Tryz.prog 38 #[.string ⟨l.toArray⟩] w fun e w' => ∃ v, e = .returned (.tuple #[v, .int .i64 0, .int .i64 0]) ∧ Lv w' v (nat l) 2001 ∧ Keep w w' := by
  obtain ⟨K, hK⟩ : ∃ K, K = 2001 := ⟨_, rfl⟩
  rw [← hK]
  have h := Read_any (l.map UInt8.toNat) w (by
    intro x hx
    obtain ⟨b, hb, rfl⟩ := List.mem_map.1 hx
    have := hd b hb
    unfold isD at this
    have := of_decide_eq_true this
    omega) (by simpa using h0) (by rw [List.length_map]; omega)
  rw [S8_mk, numv_nat] at h
  refine h.mono ?_
  rintro e w' ⟨v, rfl, hv, k⟩
  exact ⟨v, rfl, hv.lv (nat_room hd hl K (by omega)), k⟩
set_option maxRecDepth 100000 in
set_option maxHeartbeats 400000 in
/-- Digits as a natural; a power of ten. -/
theorem natural_dec (ng pn : Bool) (wh pt ds l : List UInt8) (w : World) (hd : allD l) (h0 : l ≠ []) (hl : l.length ≤ 16000) :
    Calls Tryz.prog 138 #[.agg #[.bool ng, .bool false, .string ⟨wh.toArray⟩, .string ⟨pt.toArray⟩, .bool pn, .string ⟨ds.toArray⟩], .string ⟨l.toArray⟩] w fun e w' => ∃ v, e = .returned v ∧ Lv w' v (nat l) 2001 ∧ Keep w w' := by
  have hR := fun wx => Read_lv l wx hd h0 hl
  generalize nat l = N at *
  clear hd h0
  obtain ⟨wb, hwb⟩ : ∃ wb, w.alloc (.cells #[.bool ng, .bool false, .string ⟨wh.toArray⟩, .string ⟨pt.toArray⟩, .bool pn, .string ⟨ds.toArray⟩] 129) = wb := ⟨_, rfl⟩
  have c1 : wb.cell? ⟨w.heap.size, 1, none⟩ = some (.bool false) := by rw [← hwb, (Sp.new w _).cell]; rfl
  have HK : Hid (Keep w wb) := by unfold Hid; rw [← hwb]; exact (Keep.refl w).alloc _
  go_enter Tryz.func138, Tryz.ntmps138
  go_wp2_with fail
  refine (hR _).mono ?_
  rintro e w2 ⟨v, rfl, hv, k2⟩
  go_wp2_with fail
  go_ret
  exact ⟨v, rfl, hv, HK.out.trans k2⟩
set_option maxRecDepth 100000 in
set_option maxHeartbeats 400000 in
theorem basePower_dec (ng pn : Bool) (wh pt ds : List UInt8) (n : Nat) (w : World) (hn : n ≤ 16000) :
    Calls Tryz.prog 139 #[.agg #[.bool ng, .bool false, .string ⟨wh.toArray⟩, .string ⟨pt.toArray⟩, .bool pn, .string ⟨ds.toArray⟩], .int .i64 (n : Int)] w fun e w' => ∃ v, e = .returned v ∧ Lv w' v (10 ^ n) 2001 ∧ Keep w w' := by
  have hF := fun wx => From_lv 10 wx (by omega)
  have hP := fun v wx (h : Lv wx v 10 2) => Pow10_lv v n wx h hn
  generalize 10 ^ n = N at *
  obtain ⟨wb, hwb⟩ : ∃ wb, w.alloc (.cells #[.bool ng, .bool false, .string ⟨wh.toArray⟩, .string ⟨pt.toArray⟩, .bool pn, .string ⟨ds.toArray⟩] 129) = wb := ⟨_, rfl⟩
  have c1 : wb.cell? ⟨w.heap.size, 1, none⟩ = some (.bool false) := by rw [← hwb, (Sp.new w _).cell]; rfl
  have HK : Hid (Keep w wb) := by unfold Hid; rw [← hwb]; exact (Keep.refl w).alloc _
  go_enter Tryz.func139, Tryz.ntmps139
  go_wp2_with fail
  refine (hF _).mono ?_
  rintro e w2 ⟨v, rfl, hv, k2⟩
  go_wp2_with fail
  refine (hP v _ hv).mono ?_
  rintro e w3 ⟨u, rfl, hu, k3⟩
  go_wp2_with fail
  go_ret
  exact ⟨u, rfl, hu, (HK.out.trans k2).trans k3⟩
end Go.Proofs.YtpdjpjkieafnbaaGreatDoor.Li
set_option linter.unusedVariables false
set_option linter.unusedSimpArgs false
namespace Go.Proofs.YtpdjpjkieafnbaaGreatDoor.Li
open Go.RowKit Lb Nr
theorem sA_scale (g N : Nat) (e : Int) : sA (g * N) e = g * sA N e := by unfold sA; rw [Nat.mul_assoc]
theorem sB_scale (g N : Nat) (e : Int) : sB (g * N) e = g * sB N e := by unfold sB; rw [Nat.mul_assoc]
theorem isE_scale {g N D : Nat} (hg : 0 < g) (e : Int) : IsE (g * N) (g * D) e ↔ IsE N D e := by
  unfold IsE fl
  simp only [sA_scale, sB_scale, Nat.mul_div_mul_left _ _ hg]
theorem rup_scale {g N D : Nat} (hg : 0 < g) (hD : 0 < D) (e : Int) : rup (sA (g * N) e) (sB (g * D) e) = rup (sA N e) (sB D e) := by
  apply rup_ratio (sB_pos (Nat.mul_pos hg hD) e) (sB_pos hD e)
  rw [sA_scale, sB_scale, Nat.mul_assoc, Nat.mul_left_comm]
/-- The bits of the number nearest to a quotient. -/
def NB (N D x : Nat) : Prop := (N = 0 → x = 0) ∧ (0 < N → ∀ E, IsE N D E → x = wb (rup (sA N E) (sB D E)) E)
theorem NB.same {N D N' D' x : Nat} (h : NB N D x) (hD : 0 < D) (hD' : 0 < D') (he : N * D' = N' * D) : NB N' D' x := by
  refine ⟨fun h0 => h.1 ?_, fun h0 E hE => ?_⟩
  · rw [h0, Nat.zero_mul] at he
    rcases Nat.mul_eq_zero.1 he with c | c
    · exact c
    · omega
  · have hN : 0 < N := by
      rcases Nat.eq_zero_or_pos N with c | c
      · exfalso
        rw [c, Nat.zero_mul] at he
        have : 0 < N' * D := Nat.mul_pos h0 hD
        omega
      · exact c
    have e1 : D' * N = D * N' := by rw [Nat.mul_comm D' N, Nat.mul_comm D N']; exact he
    have e2 : D' * D = D * D' := Nat.mul_comm _ _
    have a := (isE_scale (N := N') (D := D') hD E).2 hE
    rw [← e1, ← e2] at a
    have b := (isE_scale (N := N) (D := D) hD' E).1 a
    rw [h.2 hN E b]
    have q1 := rup_scale (N := N) (D := D) hD' hD E
    have q2 := rup_scale (N := N') (D := D') hD hD' E
    rw [e1, e2, q2] at q1
    rw [q1]
theorem two_lt {a b : Nat} (h : (2 : Nat) ^ a < 2 ^ b) : a < b := (Nat.pow_lt_pow_iff_right (by omega)).1 h
theorem NB.high {N D : Nat} (k : Nat) (hk : 1100 < k) (hD : 0 < D) (h : D * 2 ^ k ≤ N) : NB N D 9218868437227405312 := by
  have hN : 0 < N := Nat.lt_of_lt_of_le (Nat.mul_pos hD (Nat.two_pow_pos _)) h
  refine ⟨fun h0 => by clear h; omega, fun _ E hE => (far_high hN hD ?_ hE).symm⟩
  have a := (sz_ge hD)
  have b := sz_lt N
  have c : 2 ^ (sz D - 1 + k) < 2 ^ sz N := by
    rw [Nat.pow_add]
    exact Nat.lt_of_le_of_lt (Nat.le_trans (Nat.mul_le_mul_right _ a.1) h) b
  have d := two_lt c
  have e := a.2
  clear a b c h
  omega
theorem NB.low {N D : Nat} (k : Nat) (hk : 1100 < k) (hD : 0 < D) (h : N * 2 ^ k ≤ D) : NB N D 0 := by
  refine ⟨fun _ => rfl, fun hN E hE => (far_low hD ?_ hE).symm⟩
  have a := (sz_ge hN)
  have b := sz_lt D
  have c : 2 ^ (sz N - 1 + k) < 2 ^ sz D := by
    rw [Nat.pow_add]
    exact Nat.lt_of_le_of_lt (Nat.le_trans (Nat.mul_le_mul_right _ a.1) h) b
  have d := two_lt c
  have e := a.2
  clear a b c h
  omega
/-- Noughts behind. -/
theorem tr0_split (l : List UInt8) : ∃ q, l = tr0 l ++ List.replicate q 48 := by
  have h := List.takeWhile_append_dropWhile (p := fun b : UInt8 => b == 48) (l := l.reverse)
  have hr : l = (l.reverse.dropWhile fun b : UInt8 => b == 48).reverse ++ (l.reverse.takeWhile fun b : UInt8 => b == 48).reverse := by
    rw [← List.reverse_append, h, List.reverse_reverse]
  have ha : ∀ b ∈ (l.reverse.takeWhile fun b : UInt8 => b == 48), b = 48 := by
    intro b hb
    have := tw_all (fun b : UInt8 => b == 48) l.reverse b hb
    simpa using this
  refine ⟨(l.reverse.takeWhile fun b : UInt8 => b == 48).length, ?_⟩
  have e : (l.reverse.takeWhile fun b : UInt8 => b == 48).reverse = List.replicate (l.reverse.takeWhile fun b : UInt8 => b == 48).length 48 := by
    rw [List.eq_replicate_iff]
    refine ⟨by simp, ?_⟩
    intro b hb
    exact ha b (by simpa using hb)
  rw [← e]
  exact hr
/-- A decimal's digits: without the noughts at both ends. -/
theorem dec_parts {l : List UInt8} (hd : allD l) : ∃ q : Nat, (tl0 l).length = (tr0 (tl0 l)).length + q ∧ nat l = nat (tr0 (tl0 l)) * 10 ^ q ∧ (tr0 (tl0 l) = [] → nat l = 0) ∧ (tr0 (tl0 l) ≠ [] → 0 < nat (tr0 (tl0 l)) ∧ 10 ^ ((tr0 (tl0 l)).length - 1) ≤ nat (tr0 (tl0 l))) ∧ allD (tr0 (tl0 l)) ∧ nat (tr0 (tl0 l)) < 10 ^ (tr0 (tl0 l)).length := by
  obtain ⟨q, hq⟩ := tr0_split (tl0 l)
  have hdt := tl0_allD hd
  have h1 : nat l = nat (tr0 (tl0 l)) * 10 ^ q := by
    rw [← tl0_nat l]
    have := nat_append (tr0 (tl0 l)) (List.replicate q 48)
    rw [← hq, nat_zeros, List.length_replicate, Nat.add_zero] at this
    exact this
  have hl : (tl0 l).length = (tr0 (tl0 l)).length + q := by
    have := congrArg List.length hq
    rw [List.length_append, List.length_replicate] at this
    exact this
  have hds : allD (tr0 (tl0 l)) := by
    intro x hx
    apply hdt
    rw [hq]
    exact List.mem_append_left _ hx
  refine ⟨q, hl, h1, ?_, ?_, hds, nat_lt hds⟩
  · intro e
    rw [h1, e]
    simp [nat]
  · intro hne
    have hne2 : tl0 l ≠ [] := by
      intro e
      rw [e] at hne
      exact hne rfl
    have hge := tl0_ge hd hne2
    rw [h1, hl] at hge
    have hlen : 0 < (tr0 (tl0 l)).length := List.length_pos_iff.2 hne
    rw [show (tr0 (tl0 l)).length + q - 1 = (tr0 (tl0 l)).length - 1 + q by omega, Nat.pow_add] at hge
    have h2 := Nat.le_of_mul_le_mul_right hge (Nat.pow_pos (by omega))
    exact ⟨Nat.lt_of_lt_of_le (Nat.pow_pos (by omega)) h2, h2⟩
/-- Beyond all numbers, or below. -/
theorem dec_high {S L : Nat} {p : Int} (k : Nat) (hk : 1100 < k) (h1 : 10 ^ (L - 1) ≤ S) (hL : 0 < L) (hp : (k : Int) < (L : Int) + p) : NB (S * 10 ^ p.toNat) (10 ^ (-p).toNat) 9218868437227405312 := by
  apply NB.high k hk (Nat.pow_pos (by omega))
  have a : 10 ^ (-p).toNat * 2 ^ k ≤ 10 ^ (-p).toNat * 10 ^ k := Nat.mul_le_mul_left _ (Nat.pow_le_pow_left (by omega) k)
  have b : 10 ^ (-p).toNat * 10 ^ k ≤ 10 ^ (L - 1) * 10 ^ p.toNat := by
    rw [← Nat.pow_add, ← Nat.pow_add]
    exact Nat.pow_le_pow_right (by omega) (by clear h1 a; omega)
  exact Nat.le_trans a (Nat.le_trans b (Nat.mul_le_mul_right _ h1))
theorem dec_low {S L : Nat} {p : Int} (k : Nat) (hk : 1100 < k) (h1 : S < 10 ^ L) (hp : (L : Int) + p ≤ -(k : Int)) : NB (S * 10 ^ p.toNat) (10 ^ (-p).toNat) 0 := by
  apply NB.low k hk (Nat.pow_pos (by omega))
  have hz : p.toNat = 0 := by clear h1; omega
  rw [hz, Nat.pow_zero, Nat.mul_one]
  have a : S * 2 ^ k ≤ 10 ^ L * 10 ^ k := Nat.mul_le_mul (Nat.le_of_lt h1) (Nat.pow_le_pow_left (by omega) k)
  refine Nat.le_trans a ?_
  rw [← Nat.pow_add]
  exact Nat.pow_le_pow_right (by omega) (by clear h1 a; omega)
/-- The point and the noughts moved. -/
theorem NB.moved {S q : Nat} {P p : Int} {x : Nat} (hp : p = P + (q : Int)) (h : NB (S * 10 ^ p.toNat) (10 ^ (-p).toNat) x) : NB (S * 10 ^ q * 10 ^ P.toNat) (10 ^ (-P).toNat) x := by
  refine h.same (Nat.pow_pos (by omega)) (Nat.pow_pos (by omega)) ?_
  rw [Nat.mul_assoc, Nat.mul_assoc, Nat.mul_assoc, ← Nat.pow_add, ← Nat.pow_add, ← Nat.pow_add]
  rw [show p.toNat + (-P).toNat = q + (P.toNat + (-p).toNat) by omega]
end Go.Proofs.YtpdjpjkieafnbaaGreatDoor.Li
set_option linter.unusedVariables false
set_option linter.unusedSimpArgs false
namespace Go.Proofs.YtpdjpjkieafnbaaGreatDoor.Li
open Go.RowKit Lb Nr
theorem catB (a b : List UInt8) : ByteArray.mk a.toArray ++ ByteArray.mk b.toArray = ⟨(a ++ b).toArray⟩ := by
  apply ByteArray.ext
  simp
/-- The format's variable. -/
def Fm (w : World) (g : Nat) : Prop := w.heap[g]? = some (.cells #[.int .i64 52, .int .i64 2047, .int .i64 (-1074)] 85 (0, 0))
theorem Fm.keep {w w' : World} {g : Nat} (h : Fm w g) (k : Keep w w') : Fm w' g := by
  unfold Fm; rw [k.block g (Array.getElem?_eq_some_iff.1 h).1]; exact h
theorem Fm.new (w : World) : Fm (w.alloc (.cells #[.int .i64 52, .int .i64 2047, .int .i64 (-1074)] 85)) w.heap.size := heap_alloc_new w _
theorem Fm.cells {w : World} {g : Nat} (h : Fm w g) : w.cell? ⟨g, 0, none⟩ = some (.int .i64 52) ∧ w.cell? ⟨g, 1, none⟩ = some (.int .i64 2047) ∧ w.cell? ⟨g, 2, none⟩ = some (.int .i64 (-1074)) := by
  refine ⟨?_, ?_, ?_⟩ <;> rw [cell_of_row w g _ _ 85 (0, 0) h] <;> rfl
theorem trl_any (l : List UInt8) (w : World) : Calls Tryz.prog 136 #[.string ⟨l.toArray⟩, .string ⟨#[48]⟩] w fun e w' => e = .returned (.string ⟨(tl0 l).toArray⟩) ∧ w' = w := by
  have h := Tryz.strings_TrimLeft_one ⟨l.toArray⟩ 48 (by decide) w
  rw [dt_mk] at h
  exact h
theorem trr_any (l : List UInt8) (w : World) (hl : l.length ≤ 100000) : Calls Tryz.prog 110 #[.string ⟨l.toArray⟩, .string ⟨#[48]⟩] w fun e w' => e = .returned (.string ⟨(tr0 l).toArray⟩) ∧ w' = w := by
  have h := Tryz.strings_TrimRight_one ⟨l.toArray⟩ 48 (by decide) w (by rw [sz_mk]; omega)
  rw [dt_mk] at h
  exact h
set_option maxRecDepth 100000 in
set_option maxHeartbeats 2000000 in
/-- The bits of a decimal. -/
theorem amount_dec (ng pn : Bool) (wh pt ds : List UInt8) (hd : allD (wh ++ pt)) (hds : allD ds) (hl : (wh ++ pt).length ≤ 4096) (hl2 : ds.length ≤ 4096) (w : World) :
    Calls Tryz.prog 90 #[.agg #[.int .i64 52, .int .i64 2047, .int .i64 (-1074)], .agg #[.bool ng, .bool false, .string ⟨wh.toArray⟩, .string ⟨pt.toArray⟩, .bool pn, .string ⟨ds.toArray⟩]] w fun e w' =>
      ∃ x : Nat, e = .returned (.int .u64 (x : Nat)) ∧ NB (nat (wh ++ pt) * 10 ^ (pwN pn ds - (pt.length : Int)).toNat) (10 ^ (-(pwN pn ds - (pt.length : Int))).toNat) x ∧ Keep w w' := by
  have hP := fun wx => powerNumber_any ng false pn wh pt ds hds hl2 wx
  have hpin := pwN_in pn ds
  obtain ⟨q, g1, g2, g3, g4, g5, g6⟩ := dec_parts hd
  have hwl : wh.length ≤ 4096 := by rw [List.length_append] at hl; omega
  have hptl : pt.length ≤ 4096 := by rw [List.length_append] at hl; omega
  have htl : (tl0 (wh ++ pt)).length ≤ 4096 := Nat.le_trans (tl0_len _) hl
  have hTL := fun wx => trl_any (wh ++ pt) wx
  have hTR := fun wx => trr_any (tl0 (wh ++ pt)) wx (by omega)
  have hcat := catB wh pt
  have hcs : (ByteArray.mk wh.toArray ++ ByteArray.mk pt.toArray).size ≤ 4096 := by rw [hcat, sz_mk]; exact hl
  have hNat := fun wx (h0 : tr0 (tl0 (wh ++ pt)) ≠ []) => natural_dec ng pn wh pt ds (tr0 (tl0 (wh ++ pt))) wx g5 h0 (by omega)
  have hBP := fun (n : Nat) wx (hn : n ≤ 16000) => basePower_dec ng pn wh pt ds n wx hn
  obtain ⟨S, hS⟩ : ∃ S, nat (tr0 (tl0 (wh ++ pt))) = S := ⟨_, rfl⟩
  obtain ⟨N, hN⟩ : ∃ N, nat (wh ++ pt) = N := ⟨_, rfl⟩
  obtain ⟨D, hD⟩ : ∃ D, wh ++ pt = D := ⟨_, rfl⟩
  obtain ⟨G, hG⟩ : ∃ G, tl0 D = G := ⟨_, rfl⟩
  obtain ⟨H, hH⟩ : ∃ H, tr0 G = H := ⟨_, rfl⟩
  rw [hN] at g2 g3 ⊢
  rw [hD] at g1 g2 g3 g4 g5 g6 htl hTL hTR hcat hNat hS
  rw [hG] at g1 g2 g3 g4 g5 g6 htl hTL hTR hNat hS
  rw [hH] at g1 g2 g3 g4 g5 g6 hTR hNat hS
  rw [hS] at g2 g4 g6 hNat
  obtain ⟨L, hL⟩ : ∃ L, H.length = L := ⟨_, rfl⟩
  obtain ⟨gl, hgl⟩ : ∃ gl, G.length = gl := ⟨_, rfl⟩
  obtain ⟨pl, hpl⟩ : ∃ pl, pt.length = pl := ⟨_, rfl⟩
  obtain ⟨V, hV⟩ : ∃ V, pwN pn ds = V := ⟨_, rfl⟩
  have z1 : (ByteArray.mk H.toArray).size = L := by rw [sz_mk]; exact hL
  have z2 : (ByteArray.mk G.toArray).size = gl := by rw [sz_mk]; exact hgl
  have z3 : (ByteArray.mk pt.toArray).size = pl := by rw [sz_mk]; exact hpl
  rw [hV] at hP hpin ⊢
  rw [hL, hgl] at g1
  rw [hL] at g4 g6
  rw [hgl] at htl
  rw [hpl] at hptl ⊢
  clear hN hD hG hH hS hL hgl hpl hV hd hl g5 hds
  have b1 := hpin.1
  have b2 := hpin.2
  clear hpin
  have HG2 : Hid (N = S * 10 ^ q) := g2
  have HG3 : Hid (H = [] → N = 0) := g3
  have HG4 : Hid (H ≠ [] → 0 < S ∧ 10 ^ (L - 1) ≤ S) := g4
  have HG6 : Hid (S < 10 ^ L) := g6
  have HG1 : Hid (gl = L + q) := g1
  have hL4 : L ≤ gl := by omega
  clear g1 g2 g3 g4 g6
  go_enter Tryz.func90, Tryz.ntmps90
  go_upto_region 5 with (go_at_call 136; refine (hTL _).mono ?_; rintro e wz ⟨rfl, hz⟩; rw [hz]; clear hz)
  go_region_held3 (fun w' => w'.cell? ⟨w.heap.size + 1, 0, none⟩ = some (.bool ng) ∧ w'.cell? ⟨w.heap.size + 1, 1, none⟩ = some (.bool false) ∧ w'.cell? ⟨w.heap.size + 1, 2, none⟩ = some (.string ⟨wh.toArray⟩) ∧ w'.cell? ⟨w.heap.size + 1, 3, none⟩ = some (.string ⟨pt.toArray⟩) ∧ w'.cell? ⟨w.heap.size + 1, 4, none⟩ = some (.bool pn) ∧ w'.cell? ⟨w.heap.size + 1, 5, none⟩ = some (.string ⟨ds.toArray⟩)) (go_keep) (first | (go_at_call 137; refine (hP _).mono ?_; rintro e w2 ⟨rfl, o, p, rfl⟩))
  go_simp
  go_upto_region 9 with (go_at_call 110; refine (hTR _).mono ?_; rintro e wz ⟨rfl, hz⟩; rw [hz]; clear hz)
  have KA : Keep w (((((w.alloc (.cells #[.int .i64 52, .int .i64 2047, .int .i64 (-1074)] 85)).alloc (.cells #[.bool ng, .bool false, .string ⟨wh.toArray⟩, .string ⟨pt.toArray⟩, .bool pn, .string ⟨ds.toArray⟩] 129)).alloc o).alloc (.stringIter ⟨ds.toArray⟩ p)).drew) := (((((Keep.refl w).alloc _).alloc _).alloc o).alloc _).drew
  have FA : ∀ wx, Keep (((((w.alloc (.cells #[.int .i64 52, .int .i64 2047, .int .i64 (-1074)] 85)).alloc (.cells #[.bool ng, .bool false, .string ⟨wh.toArray⟩, .string ⟨pt.toArray⟩, .bool pn, .string ⟨ds.toArray⟩] 129)).alloc o).alloc (.stringIter ⟨ds.toArray⟩ p)).drew) wx → Fm wx w.heap.size ∧ Sp wx (w.heap.size + 1) #[.bool ng, .bool false, .string ⟨wh.toArray⟩, .string ⟨pt.toArray⟩, .bool pn, .string ⟨ds.toArray⟩] := by
    intro wx kx
    refine ⟨(Fm.new w).keep (((((Keep.refl _).alloc _).alloc o).alloc _).drew.trans kx), ?_⟩
    have := Sp.new (w.alloc (.cells #[.int .i64 52, .int .i64 2047, .int .i64 (-1074)] 85)) #[.bool ng, .bool false, .string ⟨wh.toArray⟩, .string ⟨pt.toArray⟩, .bool pn, .string ⟨ds.toArray⟩]
    rw [show (w.alloc (.cells #[.int .i64 52, .int .i64 2047, .int .i64 (-1074)] 85)).heap.size = w.heap.size + 1 by simp] at this
    exact this.keep ((((Keep.refl _).alloc o).alloc _).drew.trans kx)
  generalize ((((w.alloc (.cells #[.int .i64 52, .int .i64 2047, .int .i64 (-1074)] 85)).alloc (.cells #[.bool ng, .bool false, .string ⟨wh.toArray⟩, .string ⟨pt.toArray⟩, .bool pn, .string ⟨ds.toArray⟩] 129)).alloc o).alloc (.stringIter ⟨ds.toArray⟩ p)).drew = wA at KA FA ⊢
  have HKA : Hid (Keep w wA) := KA
  have HFA : Hid (∀ wx, Keep wA wx → Fm wx w.heap.size ∧ Sp wx (w.heap.size + 1) #[.bool ng, .bool false, .string ⟨wh.toArray⟩, .string ⟨pt.toArray⟩, .bool pn, .string ⟨ds.toArray⟩]) := FA
  clear KA FA hTL hTR hP
  obtain ⟨P, hP1⟩ : ∃ P : Int, V - (pl : Int) + ((gl : Int) - (L : Int)) = P := ⟨_, rfl⟩
  rw [hP1]
  have HP1 : Hid (P = V - (pl : Int) + (q : Int)) := by
    unfold Hid
    have := HG1.out
    omega
  have bP : -1100000 ≤ P ∧ P ≤ 1100000 := by omega
  have bP1 := bP.1
  have bP2 := bP.2
  clear bP hP1
  have fin : ∀ x, NB (S * 10 ^ P.toNat) (10 ^ (-P).toNat) x → NB (N * 10 ^ (V - (pl : Int)).toNat) (10 ^ (-(V - (pl : Int))).toNat) x := by
    intro x h
    rw [HG2.out]
    exact NB.moved HP1.out h
  by_cases c0 : H = []
  · have e0 : H.isEmpty = true := by rw [c0]; rfl
    have hz : NB (N * 10 ^ (V - (pl : Int)).toNat) (10 ^ (-(V - (pl : Int))).toNat) 0 := by
      rw [HG3.out c0, Nat.zero_mul]
      exact ⟨fun _ => rfl, fun h => absurd h (by omega)⟩
    have HZ : Hid (NB (N * 10 ^ (V - (pl : Int)).toNat) (10 ^ (-(V - (pl : Int))).toNat) 0) := hz
    clear c0 hz fin
    go_wp2_with fail
    go_ret
    exact ⟨0, rfl, HZ.out, HKA.out⟩
  have e0 : H.isEmpty = false := by simpa using c0
  obtain ⟨s0, s1⟩ := HG4.out c0
  have hL0 : Hid (0 < L) := by
    rw [← z1, sz_mk]
    exact List.length_pos_iff.2 c0
  have hNat' := fun wx => hNat wx c0
  have S0 : Hid (0 < S) := s0
  have S1 : Hid (10 ^ (L - 1) ≤ S) := s1
  have Fin : Hid (∀ x, NB (S * 10 ^ P.toNat) (10 ^ (-P).toNat) x → NB (N * 10 ^ (V - (pl : Int)).toNat) (10 ^ (-(V - (pl : Int))).toNat) x) := fin
  clear c0 s0 s1 hNat fin
  by_cases c1 : (L : Int) + P < -2000
  · have e1 : decide ((L : Int) + P < -2000) = true := decide_eq_true c1
    have HZ : Hid (NB (N * 10 ^ (V - (pl : Int)).toNat) (10 ^ (-(V - (pl : Int))).toNat) 0) := Fin.out 0 (dec_low 2000 (by omega) HG6.out (by omega))
    clear c1
    go_wp2_with fail
    go_ret
    exact ⟨0, rfl, HZ.out, HKA.out⟩
  have e1 : decide ((L : Int) + P < -2000) = false := decide_eq_false c1
  by_cases c2 : 2000 < (L : Int) + P
  · have e2 : decide (2000 < (L : Int) + P) = true := decide_eq_true c2
    have HZ : Hid (NB (N * 10 ^ (V - (pl : Int)).toNat) (10 ^ (-(V - (pl : Int))).toNat) 9218868437227405312) := Fin.out _ (dec_high 2000 (by omega) S1.out hL0.out (by omega))
    obtain ⟨f0, f1, f2⟩ := (HFA.out _ (Keep.refl _)).1.cells
    have hI := fun wx => infinity_any wx
    unfold fmtV at hI
    clear c1 c2
    go_wp2_with fail
    refine (hI _).mono ?_
    rintro e w3 ⟨rfl, k3⟩
    go_wp2_with fail
    go_ret
    exact ⟨_, rfl, HZ.out, HKA.out.trans k3⟩
  have e2 : decide (2000 < (L : Int) + P) = false := decide_eq_false c2
  obtain ⟨hf, hsp⟩ := HFA.out _ (Keep.refl _)
  obtain ⟨f0, f1, f2⟩ := hf.cells
  obtain ⟨t0, t1, t2, t3, t4, t5⟩ := hsp.six
  clear hf hsp
  have hNr := fun v1 v2 A B wx h1 h2 h3 h4 => nearest_any v1 v2 A B 2001 wx h1 h2 (by omega) h3 h4
  unfold fmtV at hNr
  by_cases c3 : P < 0
  · have e3 : decide (P < 0) = true := decide_eq_true c3
    obtain ⟨n, hn⟩ : ∃ n : Nat, -P = (n : Int) := ⟨(-P).toNat, by omega⟩
    have hng : IntKind.i64.wrap (-P) = (n : Int) := by rw [IntWalk.i64_left, hn]; exact IntWalk.wrap64_in _ (by omega)
    have hng2 : wrap64 (-P) = (n : Int) := by rw [hn]; exact IntWalk.wrap64_in _ (by omega)
    have hBP' := fun wx => hBP n wx (by omega)
    have HM : Hid (P.toNat = 0 ∧ (-P).toNat = n) := by unfold Hid; omega
    clear c1 c2 c3 hn hBP
    go_upto_region 14 with fail
    go_region_held3 (fun w' => w'.cell? ⟨w.heap.size, 0, none⟩ = some (.int .i64 52) ∧ w'.cell? ⟨w.heap.size, 1, none⟩ = some (.int .i64 2047) ∧ w'.cell? ⟨w.heap.size, 2, none⟩ = some (.int .i64 (-1074)) ∧ w'.cell? ⟨w.heap.size + 1, 0, none⟩ = some (.bool ng) ∧ w'.cell? ⟨w.heap.size + 1, 1, none⟩ = some (.bool false) ∧ w'.cell? ⟨w.heap.size + 1, 2, none⟩ = some (.string ⟨wh.toArray⟩) ∧ w'.cell? ⟨w.heap.size + 1, 3, none⟩ = some (.string ⟨pt.toArray⟩) ∧ w'.cell? ⟨w.heap.size + 1, 4, none⟩ = some (.bool pn) ∧ w'.cell? ⟨w.heap.size + 1, 5, none⟩ = some (.string ⟨ds.toArray⟩)) (go_keep) (first
      | (go_at_call 138; refine (hNat' _).mono ?_; rintro e w3 ⟨v, rfl, hv, k3⟩; have K3 : Hid (Keep wA w3) := (Keep.refl wA).drew.trans k3; have HV : Hid (Lv w3 v S 2001) := hv; clear hv k3; obtain ⟨hf, hsp⟩ := HFA.out _ K3.out; obtain ⟨f0, f1, f2⟩ := hf.cells; obtain ⟨t0, t1, t2, t3, t4, t5⟩ := hsp.six; clear hf hsp)
      | (go_at_call 139; refine (hBP' _).mono ?_; rintro e w4 ⟨u, rfl, hu, k4⟩; have K4 : Hid (Keep wA w4) := K3.out.trans k4; have HV4 : Hid (Lv w4 v S 2001) := HV.out.keep k4; have HU : Hid (Lv w4 u (10 ^ n) 2001) := hu; clear hu k4; obtain ⟨hf, hsp⟩ := HFA.out _ K4.out; obtain ⟨f0, f1, f2⟩ := hf.cells; obtain ⟨t0, t1, t2, t3, t4, t5⟩ := hsp.six; clear hf hsp)
      | (go_at_call 71; refine (hNr v u S (10 ^ n) _ HV4.out HU.out S0.out (Nat.pow_pos (by omega))).mono ?_; rintro e w5 ⟨x, rfl, hx, k5⟩; have K5 : Hid (Keep wA w5) := K4.out.trans k5; have HX : Hid (∀ E, IsE S (10 ^ n) E → x = wb (rup (sA S E) (sB (10 ^ n) E)) E) := hx; clear hx k5; obtain ⟨hf, hsp⟩ := HFA.out _ K5.out; obtain ⟨f0, f1, f2⟩ := hf.cells; obtain ⟨t0, t1, t2, t3, t4, t5⟩ := hsp.six; clear hf hsp))
    go_simp
    go_wp2_with fail
    go_ret
    refine ⟨x, rfl, Fin.out x ?_, HKA.out.trans K5.out⟩
    rw [HM.out.1, HM.out.2, Nat.pow_zero, Nat.mul_one]
    have := S0.out
    exact ⟨fun h => by omega, fun _ => HX.out⟩
  · have e3 : decide (P < 0) = false := decide_eq_false c3
    obtain ⟨n, hn⟩ : ∃ n : Nat, P = (n : Int) := ⟨P.toNat, by omega⟩
    have hBP' : ∀ wx, Calls Tryz.prog 139 #[.agg #[.bool ng, .bool false, .string ⟨wh.toArray⟩, .string ⟨pt.toArray⟩, .bool pn, .string ⟨ds.toArray⟩], .int .i64 P] wx fun e w' => ∃ v, e = .returned v ∧ Lv w' v (10 ^ n) 2001 ∧ Keep wx w' := fun wx => by
      rw [hn]
      exact hBP n wx (by omega)
    obtain ⟨K2, hK2⟩ : ∃ K2, K2 = 4002 := ⟨_, rfl⟩
    have hb : S * 10 ^ n < 4294967296 ^ K2 := by
      obtain ⟨K, hK⟩ : ∃ K, K = 2001 := ⟨_, rfl⟩
      have h1 : 10 ^ L ≤ 16 ^ L := Nat.pow_le_pow_left (by omega) _
      have h2 : 10 ^ n ≤ 16 ^ n := Nat.pow_le_pow_left (by omega) _
      have h3 : S * 10 ^ n ≤ 16 ^ L * 16 ^ n := Nat.mul_le_mul (Nat.le_trans (Nat.le_of_lt HG6.out) h1) h2
      rw [← Nat.pow_add] at h3
      have h4 : (16 : Nat) ^ (L + n) = 2 ^ (4 * (L + n)) := by rw [Nat.pow_mul]
      have h5 := pow_small (4 * (L + n)) (K2 - 1) (by clear h1 h2 h3 h4; omega)
      have h6 : 4294967296 ^ (K2 - 1) < 4294967296 ^ K2 := Nat.pow_lt_pow_right (by omega) (by omega)
      rw [h4] at h3
      exact Nat.lt_of_le_of_lt (Nat.le_trans h3 h5) h6
    have hMu := fun v1 v2 wx h1 h2 => Mul_lv v1 v2 S (10 ^ n) 2001 K2 wx h1 h2 (by omega) hb
    have hFr := fun wx => From_lv 1 wx (by omega)
    have hNr2 := fun v1 v2 A B wx h1 h2 h3 h4 => nearest_any v1 v2 A B K2 wx h1 h2 (by omega) h3 h4
    unfold fmtV at hNr2
    have hK22 : Hid (2 ≤ K2) := by unfold Hid; omega
    have HM : Hid (P.toNat = n ∧ (-P).toNat = 0) := by unfold Hid; omega
    clear c1 c2 c3 hn hBP hNr hb hK2
    go_upto_region 15 with fail
    go_region_held3 (fun w' => w'.cell? ⟨w.heap.size, 0, none⟩ = some (.int .i64 52) ∧ w'.cell? ⟨w.heap.size, 1, none⟩ = some (.int .i64 2047) ∧ w'.cell? ⟨w.heap.size, 2, none⟩ = some (.int .i64 (-1074)) ∧ w'.cell? ⟨w.heap.size + 1, 0, none⟩ = some (.bool ng) ∧ w'.cell? ⟨w.heap.size + 1, 1, none⟩ = some (.bool false) ∧ w'.cell? ⟨w.heap.size + 1, 2, none⟩ = some (.string ⟨wh.toArray⟩) ∧ w'.cell? ⟨w.heap.size + 1, 3, none⟩ = some (.string ⟨pt.toArray⟩) ∧ w'.cell? ⟨w.heap.size + 1, 4, none⟩ = some (.bool pn) ∧ w'.cell? ⟨w.heap.size + 1, 5, none⟩ = some (.string ⟨ds.toArray⟩)) (go_keep) (first
      | (go_at_call 138; refine (hNat' _).mono ?_; rintro e w3 ⟨v, rfl, hv, k3⟩; have K3 : Hid (Keep wA w3) := (Keep.refl wA).drew.trans k3; have HV : Hid (Lv w3 v S 2001) := hv; clear hv k3; obtain ⟨hf, hsp⟩ := HFA.out _ K3.out; obtain ⟨f0, f1, f2⟩ := hf.cells; obtain ⟨t0, t1, t2, t3, t4, t5⟩ := hsp.six; clear hf hsp)
      | (go_at_call 139; refine (hBP' _).mono ?_; rintro e w4 ⟨u, rfl, hu, k4⟩; have K4 : Hid (Keep wA w4) := K3.out.trans k4; have HV4 : Hid (Lv w4 v S 2001) := HV.out.keep k4; have HU : Hid (Lv w4 u (10 ^ n) 2001) := hu; clear hu k4; obtain ⟨hf, hsp⟩ := HFA.out _ K4.out; obtain ⟨f0, f1, f2⟩ := hf.cells; obtain ⟨t0, t1, t2, t3, t4, t5⟩ := hsp.six; clear hf hsp)
      | (go_at_call 108; refine (hMu v u _ HV4.out HU.out).mono ?_; rintro e w5 ⟨z, rfl, hz, k5⟩; have K5 : Hid (Keep wA w5) := K4.out.trans k5; have HZ5 : Hid (Lv w5 z (S * 10 ^ n) K2) := hz; clear hz k5; obtain ⟨hf, hsp⟩ := HFA.out _ K5.out; obtain ⟨f0, f1, f2⟩ := hf.cells; obtain ⟨t0, t1, t2, t3, t4, t5⟩ := hsp.six; clear hf hsp)
      | (go_at_call 69; refine (hFr _).mono ?_; rintro e w6 ⟨y, rfl, hy, k6⟩; have K6 : Hid (Keep wA w6) := K5.out.trans k6; have HZ6 : Hid (Lv w6 z (S * 10 ^ n) K2) := HZ5.out.keep k6; have HY : Hid (Lv w6 y 1 K2) := hy.more hK22.out; clear hy k6; obtain ⟨hf, hsp⟩ := HFA.out _ K6.out; obtain ⟨f0, f1, f2⟩ := hf.cells; obtain ⟨t0, t1, t2, t3, t4, t5⟩ := hsp.six; clear hf hsp)
      | (go_at_call 71; refine (hNr2 z y (S * 10 ^ n) 1 _ HZ6.out HY.out (Nat.mul_pos S0.out (Nat.pow_pos (by omega))) (by omega)).mono ?_; rintro e w7 ⟨x, rfl, hx, k7⟩; have K7 : Hid (Keep wA w7) := K6.out.trans k7; have HX : Hid (∀ E, IsE (S * 10 ^ n) 1 E → x = wb (rup (sA (S * 10 ^ n) E) (sB 1 E)) E) := hx; clear hx k7; obtain ⟨hf, hsp⟩ := HFA.out _ K7.out; obtain ⟨f0, f1, f2⟩ := hf.cells; obtain ⟨t0, t1, t2, t3, t4, t5⟩ := hsp.six; clear hf hsp))
    go_simp
    go_wp2_with fail
    go_ret
    refine ⟨x, rfl, Fin.out x ?_, HKA.out.trans K7.out⟩
    rw [HM.out.1, HM.out.2, Nat.pow_zero]
    have := Nat.mul_pos S0.out (Nat.pow_pos (n := n) (show 0 < 10 by omega))
    exact ⟨fun h => by omega, fun _ => HX.out⟩
end Go.Proofs.YtpdjpjkieafnbaaGreatDoor.Li
