import Derived.Test.YtjiflgdbgpegiaaSG0
import Derived.Test.YtjiflgdbgpegiaaSD3
import Derived.Test.YtjiflgdbgpegiaaSE1
set_option linter.unusedVariables false
set_option linter.unusedSimpArgs false
namespace Go.Proofs.Ytjiflgdbgpegiaa
open Go.RowKit Go.Shelf
theorem own_rdvo {w : World} {B n : Nat} {v : Value} {l : List Nat} (hn : l.length = n) (h : w.ownsRow B 23 1 v n (UF l)) : ∃ p c, v = .slice p n c ∧ RdV w p l ∧ (p = none ∧ n = 0 ∧ c = 0 ∨ ∃ g, p = some ⟨g, 0, none⟩ ∧ Arr w g l) := by
  rcases h.2 with ⟨h1, h2⟩ | ⟨g, cap, cur, hv, hg, hh, r1, r2, r3, r4⟩
  · refine ⟨none, 0, by rw [h1, h2], fun i hi => by omega, .inl ⟨rfl, h2, rfl⟩⟩
  · subst hv
    have hA := own_arr (r := []) (by rw [List.append_nil]; exact h)
    exact ⟨some ⟨g, 0, none⟩, cap, rfl, hA.rdv, .inr ⟨g, rfl, hA⟩⟩
theorem RdV.keep {w w' : World} {p : Option Addr} {l : List Nat} (h : RdV w p l) (k : Keep w w') : RdV w' p l := fun i hi => by
  obtain ⟨g, o, e, c⟩ := h i hi
  exact ⟨g, o, e, k.cell c⟩
set_option maxRecDepth 100000 in
theorem Below_rd (p : Option Addr) (c n y : Nat) (l : List Nat) (w : World) (hF : F64 l) (hn : l.length = n) (hl : n ≤ 17592186044416) (hy : y < 18446744073709551616) (hA : RdV w p l) :
    Calls Try.prog 44 #[.slice p n c, .float .f64 y] w fun e w' => e = .returned (.int .i64 (blw l y : Int)) ∧ w' = w := by
  have hK := fun x wx (hx : x < 18446744073709551616) => Key_any x wx hx
  have HF : Hid (∀ i, i < n → l.getD i 0 < 18446744073709551616) := fun i hi => hF.at i (by omega)
  have HC : Hid (∀ i, i < n → ∃ g o, p = some ⟨g, o, none⟩ ∧ w.cell? ⟨g, o + i, none⟩ = some (.float .f64 (l.getD i 0))) := fun i hi => hA i (by omega)
  have HN : Hid (l.length = n) := hn
  clear hF hA hn
  go_enter Try.func44, Try.ntmps44
  go_wp2_with (go_at_call 14; refine (hK _ _ (by omega)).mono ?_; rintro e w2 ⟨rfl, rfl⟩)
  go_loopw [5, 13] (fun kv iv wr => ∃ i k : Nat, iv = .int .i64 (i : Int) ∧ kv = .int .i64 (k : Int) ∧ i ≤ n ∧ k ≤ n ∧ Hid (blw (l.take i) y = k) ∧ wr = w2) (fun _ iv _ => n - (intOf iv).toNat)
  case atStart => exact ⟨0, 0, rfl, rfl, by omega, by omega, rfl, rfl⟩
  case round =>
    obtain ⟨i, k, rfl, rfl, hi, hk, H, rfl⟩ := hrel
    by_cases hin : i < n
    · have hic : (i : Int) < (n : Int) := by omega
      obtain ⟨g, o, rfl, cx⟩ := HC.out i hin
      have hx := HF.out i hin
      have hst := blw_step l y i (by rw [HN.out]; exact hin)
      rw [H.out] at hst
      have hle := blw_le (l.take (i + 1)) y
      rw [List.length_take] at hle
      obtain ⟨x, hx0⟩ : ∃ x, l.getD i 0 = x := ⟨_, rfl⟩
      rw [hx0] at cx hx hst
      have hKx := fun wx => hK x wx hx
      by_cases hlt : key x < key y
      · rw [if_pos hlt] at hst
        have hk1 : k + 1 ≤ n := by omega
        have HH : Hid (blw (l.take (i + 1)) y = k + 1) := hst
        have hltc : (key x : Int) < (key y : Int) := by omega
        clear hst hle hx0
        go_wp2_with (go_at_call 14; refine (hKx _).mono ?_; rintro e w3 ⟨rfl, rfl⟩)
        refine ⟨⟨i + 1, k + 1, by go_num, by go_num, by omega, hk1, HH, by trivial⟩, ?_⟩
        simp [intOf]; omega
      · rw [if_neg hlt] at hst
        have HH : Hid (blw (l.take (i + 1)) y = k) := hst
        have hltc : ¬ (key x : Int) < (key y : Int) := by omega
        clear hst hle hx0
        go_wp2_with (go_at_call 14; refine (hKx _).mono ?_; rintro e w3 ⟨rfl, rfl⟩)
        refine ⟨⟨i + 1, k, by go_num, rfl, by omega, hk, HH, by trivial⟩, ?_⟩
        simp [intOf]; omega
    · have hic : ¬ (i : Int) < (n : Int) := by omega
      obtain rfl : i = n := by omega
      go_wp2_with fail
      go_ret
      have := H.out
      rw [← HN.out, List.take_length] at this
      exact ⟨by rw [this]; rfl, rfl⟩
/-- The sort of nothing. -/
theorem sort0 (g c : Nat) (w : World) (hA : Arr w g []) : Calls Try.prog 66 #[.slice (some ⟨g, 0, none⟩) 0 c, cmpF] w fun e w' => (∃ v, e = .returned v) ∧ Arr w' g [] ∧ Oth g w w' := by
  refine (sortStable_any g c 0 [] w (by intro x hx; cases hx) rfl (by omega) hA).mono ?_
  rintro e w' ⟨h1, ⟨M, m1, -, -, m4⟩, h3⟩
  obtain rfl : M = [] := List.eq_nil_of_length_eq_zero m1
  exact ⟨h1, m4, h3⟩
set_option maxRecDepth 100000 in
set_option maxHeartbeats 1000000 in
theorem Sorted_nil (w : World) : Calls Try.prog 40 #[.slice none 0 0] w fun e w' => e = .returned (.slice (some ⟨w.heap.size, 0, none⟩) 0 0) ∧ Arr w' w.heap.size [] ∧ Keep w w' ∧ w'.heap.size = w.heap.size + 1 := by
  go_enter Try.func40, Try.ntmps40
  go_wp2_with (first
    | (at_make; refine wpList_makeF _ rfl _ _ rfl _ _ _ _ 0 rfl rfl rfl rfl (by omega) ?_; intro w1 hr1 k1 z1; replace hr1 : Hid (RowF w1 w.heap.size (List.replicate 0 0)) := hr1; replace z1 : Hid (w1.heap.size = w.heap.size + 1) := z1)
    | (with_reducible show wpList _ _ _ (Oper.mk _ (Op.call { callee := Callee.builtin Builtin.copy, args := _, argTypes := _ }) _ _ _ _ :: _) _ _; refine wpList_copy_nothing rfl _ _ 62 62 rfl 23 Try.underlying62 s23 (some ⟨w.heap.size, 0, none⟩) none 0 0 0 0 ?_ ?_ (Nat.zero_min _) ?_; kernel_rfl; kernel_rfl)
    | (go_at_call 66; refine (sort0 w.heap.size 0 w1 (RowF.arr (l := []) hr1.out)).mono ?_; rintro e w3 ⟨⟨v, rfl⟩, m3, k3⟩; replace m3 : Hid (Arr w3 w.heap.size []) := m3))
  go_ret
  exact ⟨rfl, m3.out, k1.oth k3 (Nat.le_refl _), by rw [k3.size, z1.out]⟩
/-- The sort of a row of one's own, nil or not. -/
theorem Sorted_own (p : Option Addr) (c n : Nat) (l : List Nat) (w : World) (hF : F64 l) (hn : l.length = n) (hl : n ≤ 17592186044416) (h : p = none ∧ n = 0 ∧ c = 0 ∨ ∃ g, p = some ⟨g, 0, none⟩ ∧ Arr w g l) :
    Calls Try.prog 40 #[.slice p n c] w fun e w' => ∃ M, M.length = n ∧ srt kI M ∧ eqv kI M l ∧ e = .returned (.slice (some ⟨w.heap.size, 0, none⟩) n n) ∧ Arr w' w.heap.size M ∧ Keep w w' ∧ w'.heap.size = w.heap.size + 1 := by
  rcases h with ⟨rfl, h0, rfl⟩ | ⟨g, rfl, hA⟩
  · obtain rfl : l = [] := List.eq_nil_of_length_eq_zero (by omega)
    subst h0
    refine (Sorted_nil w).mono ?_
    rintro e w' ⟨rfl, h1, h2, h3⟩
    exact ⟨[], rfl, List.Pairwise.nil, eqv.refl _, rfl, h1, h2, h3⟩
  · exact Sorted_any g c n l w hF hn hl hA
end Go.Proofs.Ytjiflgdbgpegiaa
