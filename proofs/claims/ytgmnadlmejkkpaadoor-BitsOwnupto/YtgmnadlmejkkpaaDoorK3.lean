import Derived.Test.YtgmnadlmejkkpaaDoorK2
set_option linter.unusedVariables false
set_option linter.unusedSimpArgs false
namespace Go.Proofs.YtgmnadlmejkkpaaDoor
open Go.RowKit
/-- Where the last run ended. -/
def ah (L : List (Nat × Nat)) (k : Nat) : Nat := if k = 0 then 0 else (L.getD (k - 1) (0, 0)).2
theorem ah_succ (L : List (Nat × Nat)) (k : Nat) : ah L (k + 1) = (L.getD k (0, 0)).2 := by unfold ah; rw [if_neg (by omega), Nat.add_sub_cancel]
theorem ah_le {L : List (Nat × Nat)} {n k : Nat} (hc : Ch L n) (hk : k < L.length) : ah L k ≤ (L.getD k (0, 0)).1 := by
  unfold ah
  by_cases h : k = 0
  · rw [if_pos h]; omega
  · rw [if_neg h]
    have := (hc (k - 1) (by omega)).2.2 (by omega)
    rw [show k - 1 + 1 = k by omega] at this
    exact this
set_option maxRecDepth 100000 in
set_option maxHeartbeats 1000000 in
theorem Of_ok (a : Option Addr) (c n : Nat) (L : List (Nat × Nat)) (w : World) (hn : n ≤ 1048576) (hL : L.length ≤ 1099511627776) (hr : RdR2 w a L) (hc : Ch L n) :
    Calls Tryd.prog 43 #[.int .i64 (n : Nat), .slice a L.length c] w fun e w' => ∃ l : List Nat, e = .returned (.tuple #[.slice (some ⟨w.heap.size, 0, none⟩) l.length l.length, .int .i64 0]) ∧ Row w' w.heap.size l ∧ l.length = (n + 63) / 64 ∧ W64 l ∧ (∀ p, hs l p = true ↔ ∃ j, j < L.length ∧ (L.getD j (0, 0)).1 ≤ p ∧ p < (L.getD j (0, 0)).2) ∧ Keep w w' := by
  have hE := Empty_ok n w hn
  obtain ⟨m, hm⟩ : ∃ m, (n + 63) / 64 = m := ⟨_, rfl⟩
  rw [hm] at hE ⊢
  have Hm : Hid ((n + 63) / 64 = m) := hm
  clear hm
  go_enter Tryd.func43, Tryd.ntmps43
  go_wp2_with (go_at_call 14; refine hE.mono ?_; rintro e w1 ⟨rfl, hr1, hk1, hs1⟩; clear hE)
  go_loopw [8, 21] (fun v i wr => ∃ (k : Nat) (rk : List Nat), k ≤ L.length ∧ v = .int .i64 (ah L k : Nat) ∧ i = .int .i64 k ∧ Row wr w.heap.size rk ∧ Hid (rk.length = m) ∧ Hid (W64 rk) ∧ Hid (∀ p, hs rk p = true ↔ ∃ j, j < k ∧ (L.getD j (0, 0)).1 ≤ p ∧ p < (L.getD j (0, 0)).2) ∧ Keep w wr) (fun _ i _ => L.length - (intOf i).toNat)
  case atStart => exact ⟨0, _, by omega, rfl, rfl, hr1, by show _ = _; simp, W64_rep _, by show ∀ p, _; intro p; rw [hs_rep]; simp, hk1⟩
  case round =>
    clear hr1 hk1
    obtain ⟨k, rk, hkk, rfl, rfl, hrk, hlen, hw64, hbits, hkp⟩ := hrel
    by_cases hkl : k < L.length
    · obtain ⟨b, o, rfl, c1, c2⟩ := (hr.keep hkp) k hkl
      obtain ⟨q1, q2, -⟩ := hc k hkl
      have q0 := ah_le hc hkl
      have Hah : Hid (ah L (k + 1) = (L.getD k (0, 0)).2) := ah_succ L k
      have hF := fun wx (h : Row wx w.heap.size rk) => fill_any w.heap.size m (L.getD k (0, 0)).1 (L.getD k (0, 0)).2 rk wx h (by rw [hlen.out]; have := Hm.out; omega) hw64.out (by rw [hlen.out]; have := Hm.out; omega)
      rw [hlen.out] at hF
      have hlow : Hid (∀ p, (∃ j, j < k + 1 ∧ (L.getD j (0, 0)).1 ≤ p ∧ p < (L.getD j (0, 0)).2) ↔ ((∃ j, j < k ∧ (L.getD j (0, 0)).1 ≤ p ∧ p < (L.getD j (0, 0)).2) ∨ ((L.getD k (0, 0)).1 ≤ p ∧ p < (L.getD k (0, 0)).2))) := by
        show ∀ p, _
        intro p
        constructor
        · rintro ⟨j, h1, h2, h3⟩
          by_cases e : j = k
          · rw [e] at h2 h3; exact .inr ⟨h2, h3⟩
          · exact .inl ⟨j, by omega, h2, h3⟩
        · rintro (⟨j, h1, h2, h3⟩ | ⟨h2, h3⟩)
          · exact ⟨j, by omega, h2, h3⟩
          · exact ⟨k, by omega, h2, h3⟩
      generalize (L.getD k (0, 0)).1 = f at *
      generalize (L.getD k (0, 0)).2 = t at *
      generalize ah L k = h at *
      have g1 : ¬ (f : Int) < (h : Int) := by omega
      have g2 : ¬ (t : Int) ≤ (f : Int) := by omega
      have g3 : ¬ (n : Int) < (t : Int) := by omega
      have hka : Keep wr (wr.alloc (Obj.cells #[Value.int IntKind.i64 f, Value.int IntKind.i64 t] 55)) := (Keep.refl wr).alloc _
      have hrow3 : (wr.alloc (Obj.cells #[Value.int IntKind.i64 f, Value.int IntKind.i64 t] 55)).heap[wr.heap.size]? = some (Obj.cells #[Value.int IntKind.i64 f, Value.int IntKind.i64 t] 55 (0, 0)) := heap_alloc_new wr _
      have hgl := hrk.lt
      go_wp2_with fail
      generalize wr.alloc _ = w2 at hka hrow3 ⊢
      refine (hF w2 (hrk.keep hka)).mono ?_
      rintro e w3 ⟨l3, rfl, hr3, hl3, hw3, hb3, hm3⟩
      have c5 : w3.cell? ⟨wr.heap.size, 1, none⟩ = some (Value.int IntKind.i64 t) := by
        have h4 : w3.heap[wr.heap.size]? = some (Obj.cells #[Value.int IntKind.i64 f, Value.int IntKind.i64 t] 55 (0, 0)) := by rw [hm3.block _ (by omega)]; exact hrow3
        rw [cell_of_row w3 _ 1 _ 55 (0, 0) h4]; rfl
      have hk3 := (hkp.trans hka).mut hm3 (Nat.le_refl _)
      have Hb3 : Hid (∀ p, hs l3 p = true ↔ ∃ j, j < k + 1 ∧ (L.getD j (0, 0)).1 ≤ p ∧ p < (L.getD j (0, 0)).2) := by
        show ∀ p, _
        intro p
        rw [hlow.out p, ← hbits.out p, hb3 p, Bool.or_eq_true, decide_eq_true_eq]
      clear hF hbits hlow hb3 hrow3
      go_wp2_with fail
      go_roundw
      case rel => exact ⟨k + 1, l3, by omega, by rw [Hah.out], by go_num, hr3, hl3, hw3, Hb3, hk3⟩
      case measure => simp [intOf]; omega
    · have hke : Hid (k = L.length) := by show _ = _; omega
      go_wp2_with fail
      go_ret2
      refine ⟨rk, by rw [hlen.out]; rfl, hrk, hlen.out, hw64.out, ?_, hkp⟩
      intro p
      rw [← hke.out]
      exact hbits.out p
end Go.Proofs.YtgmnadlmejkkpaaDoor
