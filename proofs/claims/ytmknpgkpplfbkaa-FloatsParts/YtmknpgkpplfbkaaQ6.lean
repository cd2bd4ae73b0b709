import Derived.Test.YtmknpgkpplfbkaaQ5
set_option linter.unusedVariables false
set_option linter.unusedSimpArgs false
namespace Go.Proofs.Ytmknpgkpplfbkaa
open Go.RowKit Lb
theorem pM_lt (b : Nat) : pM b < 9007199254740992 := by
  unfold pM pKept
  split <;> omega
theorem box_off {w : World} {g : Nat} {x0 : Bool} {a : Option Addr} {l : List Nat} (t : w.heap[g]? = some (Obj.cells #[Value.bool x0, Value.slice none 0 0, Value.slice none 0 0] 37 (0, 0))) (h : Rd w a l) : Off g a l := by
  rintro b o s rfl hl rfl
  have h0 : 0 < l.length := List.length_pos_iff.2 hl
  obtain ⟨b', o', e, hc⟩ := h 0 h0
  simp only [Option.some.injEq, Addr.mk.injEq] at e
  obtain ⟨rfl, rfl, rfl⟩ := e
  rw [cell_of_row _ _ _ _ 37 (0, 0) t] at hc
  rcases o with _ | _ | _ | o <;> simp at hc
theorem word_pow (k : Nat) : (4294967296 : Nat) ^ k = 2 ^ (32 * k) := by rw [Nat.pow_mul]
theorem len_big_of {l : List Nat} (hn : Nrm l) {n k m : Nat} (h : val l = n * 2 ^ k) (hk : 53 + k ≤ 32 * m) (h0 : n < 9007199254740992) : l.length ≤ m := by
  have h3 : n * 2 ^ k < 2 ^ 53 * 2 ^ k := Nat.mul_lt_mul_of_pos_right (by omega) (Nat.pow_pos (by omega))
  rw [← Nat.pow_add] at h3
  have h1 : n * 2 ^ k < 4294967296 ^ m := by
    rw [word_pow]
    exact Nat.lt_of_lt_of_le h3 (Nat.pow_le_pow_right (by omega) hk)
  exact len_of hn (by rw [h]; exact h1)
theorem len_big {l : List Nat} (hn : Nrm l) {n k : Nat} (h : val l = n * 2 ^ k) (hk : k ≤ 1074) (h0 : n < 9007199254740992) : l.length ≤ 70368744177663 := by
  have := len_big_of hn (m := 40) h (by omega) h0
  omega
set_option maxRecDepth 100000 in
theorem Quotient_some (b : Nat) (hb : b < 18446744073709551616) (hf : pField b ≠ 2047) (w : World) :
    Calls Try.prog 8 #[.float .f64 b] w fun e w' => RatF w w' e (pNeg b) (pM b * 2 ^ (pE b).toNat) (2 ^ (-(pE b)).toNat) := by
  obtain ⟨w1, hw1, k0, tb⟩ : ∃ w1, w.alloc (Obj.cells #[Value.bool false, Value.slice none 0 0, Value.slice none 0 0] 37) = w1 ∧ Keep w w1 ∧ w1.heap[w.heap.size]? = some (Obj.cells #[Value.bool false, Value.slice none 0 0, Value.slice none 0 0] 37 (0, 0)) := ⟨_, rfl, (Keep.refl w).alloc _, heap_alloc_new w _⟩
  have hP := Parts_any b hb w1
  have hk : pKind b ≤ 2 := by
    unfold pKind
    rw [if_neg hf]
    split
    · omega
    · split <;> omega
  have hM := pM_lt b
  have hE : -1074 ≤ pE b ∧ pE b ≤ 1000 := by
    have : pField b < 2048 := Nat.mod_lt _ (by omega)
    unfold pE
    rw [if_neg hf]
    split
    · omega
    · split <;> omega
  have hz : w.heap.size < w1.heap.size := (Array.getElem?_eq_some_iff.1 tb).1
  replace hw1 : Hid _ := hw1
  generalize pKind b = Kd at *
  generalize pM b = M at *
  generalize pE b = E at *
  generalize pNeg b = ng at *
  have n3 : ((Kd : Int) == 3) = false := by rw [beq_eq_false_iff_ne]; omega
  have n4 : ((Kd : Int) == 4) = false := by rw [beq_eq_false_iff_ne]; omega
  go_enter Try.func8, Try.ntmps8
  go_wp2_with fail
  rw [hw1.out]
  refine hP.mono ?_
  rintro e w2 ⟨rfl, k2⟩
  have t2 := (k2.block _ hz).trans tb
  have hz2 : w.heap.size < w2.heap.size := (Array.getElem?_eq_some_iff.1 t2).1
  have hF1 := From_any M w2 (by omega)
  have hF2 := fun wx => From_any 1 wx (by omega)
  go_wp2_with fail
  refine hF1.mono ?_
  rintro e w3 ⟨v1, l1, rfl, g1, m1, o1, e1, k3⟩
  go_wp2_with fail
  refine (hF2 w3).mono ?_
  rintro e w4 ⟨v2, l2, rfl, g2, m2, o2, e2, k4⟩
  have N1 : Nv w4 v1 M := by
    obtain ⟨a, c, rfl, q1, q2⟩ := g1.shape
    exact ⟨a, c, l1, rfl, q1, q2.keep k4, m1, o1, e1⟩
  have N2 : Nv w4 v2 1 := by
    obtain ⟨a, c, rfl, q1, q2⟩ := g2.shape
    exact ⟨a, c, l2, rfl, q1, q2, m2, o2, e2⟩
  have hS := scaled_any v1 v2 M 1 E w4 N1 N2 (by omega) (by omega) hE
  go_wp2_with fail
  refine hS.mono ?_
  rintro e w5 ⟨u1, u2, rfl, hu1, hu2, k5⟩
  obtain ⟨a1, c1, L1, rfl, x1, x2, x3, x4, x5⟩ := hu1
  obtain ⟨a2, c2, L2, rfl, y1, y2, y3, y4, y5⟩ := hu2
  have hO := Over_form ng a1 a2 c1 c2 L1 L2 w5 x1 y1 (len_big x4 x5 (by omega) (by omega)) (len_big y4 y5 (by omega) (by omega)) x2 y2 x3 y3
  go_wp2_with fail
  refine hO.mono ?_
  rintro e w6 ⟨an, cn, ln, ad, cd, ld, rfl, z1, z2, z3, z4, z5, z6, z7, z8, z9, z10, k6⟩
  have kk := ((((k2.trans k3).trans k4).trans k5).trans k6)
  have t6 := (kk.block _ hz).trans tb
  have c0 := cell_of_row _ _ 0 _ 37 (0, 0) t6
  have c1' := cell_of_row _ _ 1 _ 37 (0, 0) t6
  have c2' := cell_of_row _ _ 2 _ 37 (0, 0) t6
  have f0 := frozen_of_row _ _ 0 _ 37 t6
  have f1 := frozen_of_row _ _ 1 _ 37 t6
  have f2 := frozen_of_row _ _ 2 _ 37 t6
  simp only [List.getElem?_toArray, List.getElem?_cons_zero, List.getElem?_cons_succ] at c0 c1' c2'
  rw [Nat.one_mul] at y5
  rw [x5, y5] at z9 z10
  go_wp2_with fail
  have kf := (((k0.trans kk).setCell (p := ⟨w.heap.size, 0, none⟩) (Nat.le_refl _) (Value.bool (RS ng (M * 2 ^ E.toNat) (2 ^ (-E).toNat)))).setCell (p := ⟨w.heap.size, 1, none⟩) (Nat.le_refl _) (Value.slice an ln.length cn)).setCell (p := ⟨w.heap.size, 2, none⟩) (Nat.le_refl _) (Value.slice ad ld.length cd)
  have kmu := (((Mut.refl w.heap.size w6).setCell 0 (Value.bool (RS ng (M * 2 ^ E.toNat) (2 ^ (-E).toNat)))).setCell 1 (Value.slice an ln.length cn)).setCell 2 (Value.slice ad ld.length cd)
  have g6 := heap3 w6 w.heap.size (Value.bool (RS ng (M * 2 ^ E.toNat) (2 ^ (-E).toNat))) (Value.slice an ln.length cn) (Value.slice ad ld.length cd) t6
  exact bodyPost_ret (results_box rfl _ _ w.heap.size _ _ _ rfl g6) rfl ⟨an, cn, ln, ad, cd, ld, rfl, z1, z2, z3.mut kmu (box_off t6 z3), z4.mut kmu (box_off t6 z4), z5, z6, z7, z8, z9, z10, kf⟩
end Go.Proofs.Ytmknpgkpplfbkaa
