import Derived.Test.YtpdjpjkieafnbaaDoorZ1
import Derived.Test.YtpdjpjkieafnbaaDoorRM1
import Derived.Test.YtpdjpjkieafnbaaDoorLE3
set_option linter.unusedVariables false
set_option linter.unusedSimpArgs false
namespace Go.Proofs.YtpdjpjkieafnbaaDoor.Li
open Go.RowKit Lb Nr
theorem Up_lv (v : Value) (n : Nat) (w : World) (h : Lv w v 1 2) (hn : n ≤ 20000) : Calls Tryd.prog 71 #[v, .int .i64 (n : Int)] w fun e w' => ∃ u, e = .returned (.tuple #[u, .int .i64 0]) ∧ Lv w' u (2 ^ n) 2001 ∧ Keep w w' := by
  obtain ⟨a, c, l, rfl, p1, p2, p3, p4, p5⟩ := h
  refine (Up_any a c n l w p1 (by omega) (by omega) p3 p4).mono ?_
  rintro e w' ⟨u, rfl, hu, k⟩
  rw [p5, Nat.one_mul] at hu
  refine ⟨u, rfl, hu.lv ?_, k⟩
  obtain ⟨K, hK⟩ : ∃ K, K = 2001 := ⟨_, rfl⟩
  have e1 := pow_small n (K - 1) (by omega)
  have e2 : 4294967296 ^ (K - 1) < 4294967296 ^ K := Nat.pow_lt_pow_right (by omega) (by omega)
  rw [← hK]
  exact Nat.lt_of_le_of_lt e1 e2
set_option maxRecDepth 100000 in
set_option maxHeartbeats 400000 in
theorem basePower_hex (ng pn : Bool) (wh pt ds : List UInt8) (n : Nat) (w : World) (hn : n ≤ 20000) :
    Calls Tryd.prog 55 #[.agg #[.bool ng, .bool true, .string ⟨wh.toArray⟩, .string ⟨pt.toArray⟩, .bool pn, .string ⟨ds.toArray⟩], .int .i64 (n : Int)] w fun e w' => ∃ v, e = .returned v ∧ Lv w' v (2 ^ n) 2001 ∧ Keep w w' := by
  have hF := fun wx => From_lv 1 wx (by omega)
  have hP := fun v wx (h : Lv wx v 1 2) => Up_lv v n wx h hn
  generalize 2 ^ n = N at *
  obtain ⟨wb, hwb⟩ : ∃ wb, w.alloc (.cells #[.bool ng, .bool true, .string ⟨wh.toArray⟩, .string ⟨pt.toArray⟩, .bool pn, .string ⟨ds.toArray⟩] 62) = wb := ⟨_, rfl⟩
  have c1 : wb.cell? ⟨w.heap.size, 1, none⟩ = some (.bool true) := by rw [← hwb, (Sp.new w _).cell]; rfl
  have HK : Hid (Keep w wb) := by unfold Hid; rw [← hwb]; exact (Keep.refl w).alloc _
  go_enter Tryd.func55, Tryd.ntmps55
  go_wp2_with fail
  refine (hF _).mono ?_
  rintro e w2 ⟨v, rfl, hv, k2⟩
  go_wp2_with fail
  refine (hP v _ hv).mono ?_
  rintro e w3 ⟨u, rfl, hu, k3⟩
  go_wp2_with fail
  go_ret
  exact ⟨u, rfl, hu, (HK.out.trans k2).trans k3⟩
end Go.Proofs.YtpdjpjkieafnbaaDoor.Li
set_option linter.unusedVariables false
set_option linter.unusedSimpArgs false
namespace Go.Proofs.YtpdjpjkieafnbaaDoor.Li
open Go.RowKit Lb Nr
theorem hnat_zeros (k : Nat) : hnat (List.replicate k 48) = 0 := by
  induction k with
  | zero => rfl
  | succ k ih => rw [List.replicate_succ, hnat_cons, ih]; simp [hv, dgO]
theorem tl0_hnat (l : List UInt8) : hnat (tl0 l) = hnat l := by
  unfold tl0
  induction l with
  | nil => rfl
  | cons b l ih =>
    by_cases h : b = 48
    · subst h
      rw [List.dropWhile_cons_of_pos (by simp), ih, hnat_cons]
      simp [hv, dgO]
    · rw [List.dropWhile_cons_of_neg (by simpa using h)]
theorem tl0_allX {l : List UInt8} (h : allX l) : allX (tl0 l) := fun x hx => h x ((List.dropWhile_suffix _).subset hx)
theorem allX.app {a b : List UInt8} (ha : allX a) (hb : allX b) : allX (a ++ b) := by
  intro x hx
  rcases List.mem_append.1 hx with q | q
  · exact ha x q
  · exact hb x q
theorem hv_pos {b : UInt8} (h : isX true b = true) (hb : b ≠ 48) : 1 ≤ hv b := by
  have h1 := (hv_of h).1
  have h3 : b.toNat ≠ 48 := by
    intro e
    apply hb
    have : (48 : UInt8).toNat = 48 := rfl
    exact UInt8.toNat_inj.1 (by rw [e, this])
  have h0 : dgO b.toNat ≠ 0 := by
    unfold dgO
    (repeat' split) <;> omega
  omega
theorem tl0_geX {l : List UInt8} (h : allX l) (hne : tl0 l ≠ []) : 16 ^ ((tl0 l).length - 1) ≤ hnat l := by
  rw [← tl0_hnat]
  have hd := tl0_allX h
  match hl : tl0 l, hne with
  | b :: r, _ =>
    rw [hl] at hd
    have hb : b ≠ 48 := by
      intro e
      have : (b == 48) = false := dw_head (fun b : UInt8 => b == 48) l b r hl
      rw [e] at this
      simp at this
    have h1 := hv_pos (hd b List.mem_cons_self) hb
    rw [hnat_cons, List.length_cons]
    have h4 : 1 * 16 ^ r.length ≤ hv b * 16 ^ r.length := Nat.mul_le_mul_right _ h1
    have h5 : r.length + 1 - 1 = r.length := by omega
    rw [h5]
    omega
/-- A decimal's digits: without the noughts at both ends. -/
theorem hex_parts {l : List UInt8} (hd : allX l) : ∃ q : Nat, (tl0 l).length = (tr0 (tl0 l)).length + q ∧ hnat l = hnat (tr0 (tl0 l)) * 16 ^ q ∧ (tr0 (tl0 l) = [] → hnat l = 0) ∧ (tr0 (tl0 l) ≠ [] → 0 < hnat (tr0 (tl0 l)) ∧ 16 ^ ((tr0 (tl0 l)).length - 1) ≤ hnat (tr0 (tl0 l))) ∧ allX (tr0 (tl0 l)) ∧ hnat (tr0 (tl0 l)) < 16 ^ (tr0 (tl0 l)).length := by
  obtain ⟨q, hq⟩ := tr0_split (tl0 l)
  have hdt := tl0_allX hd
  have h1 : hnat l = hnat (tr0 (tl0 l)) * 16 ^ q := by
    rw [← tl0_hnat l]
    have := hnat_append (tr0 (tl0 l)) (List.replicate q 48)
    rw [← hq, hnat_zeros, List.length_replicate, Nat.add_zero] at this
    exact this
  have hl : (tl0 l).length = (tr0 (tl0 l)).length + q := by
    have := congrArg List.length hq
    rw [List.length_append, List.length_replicate] at this
    exact this
  have hds : allX (tr0 (tl0 l)) := by
    intro x hx
    apply hdt
    rw [hq]
    exact List.mem_append_left _ hx
  refine ⟨q, hl, h1, ?_, ?_, hds, hnat_lt hds⟩
  · intro e
    rw [h1, e]
    simp [hnat]
  · intro hne
    have hne2 : tl0 l ≠ [] := by
      intro e
      rw [e] at hne
      exact hne rfl
    have hge := tl0_geX hd hne2
    rw [h1, hl] at hge
    have hlen : 0 < (tr0 (tl0 l)).length := List.length_pos_iff.2 hne
    rw [show (tr0 (tl0 l)).length + q - 1 = (tr0 (tl0 l)).length - 1 + q by omega, Nat.pow_add] at hge
    have h2 := Nat.le_of_mul_le_mul_right hge (Nat.pow_pos (by omega))
    exact ⟨Nat.lt_of_lt_of_le (Nat.pow_pos (by omega)) h2, h2⟩
/-- Beyond all numbers, or below. -/
theorem hex_high {S L : Nat} {p : Int} (k : Nat) (hk : 1100 < k) (h1 : 16 ^ (L - 1) ≤ S) (hL : 0 < L) (hp : (k : Int) + 4 < 4 * (L : Int) + p) : NB (S * 2 ^ p.toNat) (2 ^ (-p).toNat) 9218868437227405312 := by
  apply NB.high k hk (Nat.two_pow_pos _)
  have b : 2 ^ (-p).toNat * 2 ^ k ≤ 16 ^ (L - 1) * 2 ^ p.toNat := by
    rw [show (16 : Nat) = 2 ^ 4 from rfl, ← Nat.pow_mul, ← Nat.pow_add, ← Nat.pow_add]
    exact Nat.pow_le_pow_right (by omega) (by clear h1; omega)
  exact Nat.le_trans b (Nat.mul_le_mul_right _ h1)
theorem hex_low {S L : Nat} {p : Int} (k : Nat) (hk : 1100 < k) (h1 : S < 16 ^ L) (hp : 4 * (L : Int) + p ≤ -(k : Int)) : NB (S * 2 ^ p.toNat) (2 ^ (-p).toNat) 0 := by
  apply NB.low k hk (Nat.two_pow_pos _)
  have hz : p.toNat = 0 := by clear h1; omega
  rw [hz, Nat.pow_zero, Nat.mul_one]
  have a : S * 2 ^ k ≤ 16 ^ L * 2 ^ k := Nat.mul_le_mul_right _ (Nat.le_of_lt h1)
  refine Nat.le_trans a ?_
  rw [show (16 : Nat) = 2 ^ 4 from rfl, ← Nat.pow_mul, ← Nat.pow_add]
  exact Nat.pow_le_pow_right (by omega) (by clear h1 a; omega)
/-- The point and the noughts moved. -/
theorem NB.movedX {S q : Nat} {P p : Int} {x : Nat} (hp : p = P + 4 * (q : Int)) (h : NB (S * 2 ^ p.toNat) (2 ^ (-p).toNat) x) : NB (S * 16 ^ q * 2 ^ P.toNat) (2 ^ (-P).toNat) x := by
  refine h.same (Nat.two_pow_pos _) (Nat.two_pow_pos _) ?_
  rw [show (16 : Nat) = 2 ^ 4 from rfl, ← Nat.pow_mul, Nat.mul_assoc, Nat.mul_assoc, Nat.mul_assoc, ← Nat.pow_add, ← Nat.pow_add, ← Nat.pow_add]
  rw [show p.toNat + (-P).toNat = 4 * q + (P.toNat + (-p).toNat) by omega]
end Go.Proofs.YtpdjpjkieafnbaaDoor.Li
