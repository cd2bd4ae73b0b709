import Derived.Test.YtgciimjcdhallaaDoorS2
set_option linter.unusedVariables false
set_option linter.unusedSimpArgs false
namespace Go.Proofs.YtgciimjcdhallaaDoor
open Go.RowKit Go.Shelf
theorem o_hex {s : List UInt8} {K : Nat} (hk : pK1 s = K) (hL : K + 1 < s.length) (h1 : (s.getD K 0).toNat = 48) (h2 : (s.getD (K + 1) 0).toNat = 120) : ¬ oGood s ∧ oEnd s = K + 1 := by
  have d1 : isD (s.getD K 0) = true := by unfold isD; apply decide_eq_true; omega
  have d2 : isD (s.getD (K + 1) 0) = false := by unfold isD; apply decide_eq_false; omega
  have HE := dg_all s K 1 (by omega) (fun i hi => by obtain rfl : i = 0 := by omega
                                                     exact ⟨by omega, d1⟩) (by rw [d2]; simp)
  obtain ⟨e1, e2, e3⟩ := wh_of hk rfl HE
  have htk : tk s [46] (K + 1) = false := by rw [tk_of hL rfl, h2]; rfl
  have hd : pDot s = false := by unfold pDot; rw [e3, htk]; simp
  have hw : (pWh s == []) = false := by
    have : pWh s ≠ [] := fun q => by rw [q] at e2; simp at e2
    simpa using this
  have hp : pOk s.length s = true := by unfold pOk; rw [hw, hd]; rfl
  have hk2 : oK s = K + 1 := by unfold oK pK3; rw [hd]; exact e3
  have he : qE s (oK s) = false := by
    rw [hk2]
    unfold qE tk
    apply decide_eq_false
    rintro ⟨-, a⟩
    have : s.getD (K + 1) 0 = 101 ∨ s.getD (K + 1) 0 = 69 := by simpa using a
    rcases this with e | e
    · rw [e] at h2; exact absurd h2 (by decide)
    · rw [e] at h2; exact absurd h2 (by decide)
  obtain ⟨f1, f2, -⟩ := o_plain hp he
  refine ⟨fun g => ?_, by rw [f1, hk2]⟩
  have := f2.1 g
  omega
set_option maxRecDepth 100000 in
set_option maxHeartbeats 2000000 in
theorem rDecimal_hex_true (s : List UInt8) (w : World) (hs : s.length ≤ 4096) (hng : pNg s = true) (hK : 2 < s.length) (hc : (s.getD 1 0).toNat = 48) (hx : (s.getD 2 0).toNat = 120) :
    Calls Tryd.prog 7 #[.string ⟨s.toArray⟩] w fun e w' => (∃ V E K, e = .returned (.tuple #[.int .i64 V, .int .i64 E, .int .i64 K]) ∧ RoA s V E K) ∧ Keep w w' := by
  have s1 : (ByteArray.mk s.toArray).size = s.length := sz_mk s
  have hk1 : pK1 s = 1 := by unfold pK1; rw [hng]; rfl
  have hb : Hid (¬ oGood s ∧ oEnd s = 2) := o_hex hk1 hK hc hx
  have hix0 : ∀ wx, (Instr.index 9 (.string ⟨s.toArray⟩) (.int .i64 0)).run Tryd.prog wx = .ok (.int .u8 ((s.getD 0 0).toNat : Nat)) wx := fun wx => run_ix s 0 (by omega) wx
  have hix1 : ∀ wx, (Instr.index 9 (.string ⟨s.toArray⟩) (.int .i64 1)).run Tryd.prog wx = .ok (.int .u8 ((s.getD 1 0).toNat : Nat)) wx := fun wx => run_ix s 1 (by omega) wx
  have hix2 : ∀ wx, (Instr.index 9 (.string ⟨s.toArray⟩) (.int .i64 2)).run Tryd.prog wx = .ok (.int .u8 ((s.getD 2 0).toNat : Nat)) wx := fun wx => run_ix s 2 (by omega) wx
  obtain ⟨c0, hc0⟩ : ∃ c0, (s.getD 0 0).toNat = c0 := ⟨_, rfl⟩
  have hcb : ((c0 : Int) == 45) = true := by
    have h1 := ng_of (s := s) (by omega)
    rw [hng, hc0] at h1
    exact eqI (of_decide_eq_true h1.symm)
  rw [hc] at hix1
  rw [hx] at hix2
  rw [hc0] at hix0
  obtain ⟨L, hL⟩ : ∃ L, s.length = L := ⟨_, rfl⟩
  rw [hL] at s1 hs hK
  have hL0 : (0 : Int) < (L : Int) := by omega
  have hL1 : (1 : Int) < (L : Int) := by omega
  have hL2 : (2 : Int) < (L : Int) := by omega
  clear hng hk1 hc hc0 hL hx
  go_enter Tryd.func7, Tryd.ntmps7
  go_wp2_with fail
  all_goals
    go_ret3
    exact ⟨⟨_, _, _, rfl, RoA.of_bad hb.out.1 (by rw [hb.out.2]; rfl)⟩, Keep.refl _⟩
set_option maxRecDepth 100000 in
set_option maxHeartbeats 2000000 in
theorem rDecimal_hex_false (s : List UInt8) (w : World) (hs : s.length ≤ 4096) (hng : pNg s = false) (hK : 1 < s.length) (hc : (s.getD 0 0).toNat = 48) (hx : (s.getD 1 0).toNat = 120) :
    Calls Tryd.prog 7 #[.string ⟨s.toArray⟩] w fun e w' => (∃ V E K, e = .returned (.tuple #[.int .i64 V, .int .i64 E, .int .i64 K]) ∧ RoA s V E K) ∧ Keep w w' := by
  have s1 : (ByteArray.mk s.toArray).size = s.length := sz_mk s
  have hk1 : pK1 s = 0 := by unfold pK1; rw [hng]; rfl
  have hb : Hid (¬ oGood s ∧ oEnd s = 1) := o_hex hk1 hK hc hx
  have hix0 : ∀ wx, (Instr.index 9 (.string ⟨s.toArray⟩) (.int .i64 0)).run Tryd.prog wx = .ok (.int .u8 ((s.getD 0 0).toNat : Nat)) wx := fun wx => run_ix s 0 (by omega) wx
  have hix2 : ∀ wx, (Instr.index 9 (.string ⟨s.toArray⟩) (.int .i64 1)).run Tryd.prog wx = .ok (.int .u8 ((s.getD 1 0).toNat : Nat)) wx := fun wx => run_ix s 1 (by omega) wx
  obtain ⟨c0, hc0⟩ : ∃ c0, (s.getD 0 0).toNat = c0 := ⟨_, rfl⟩
  have hcb : ((c0 : Int) == 45) = false := by
    have h1 := ng_of (s := s) (by omega)
    rw [hng, hc0] at h1
    exact neI (by have := of_decide_eq_false h1.symm; omega)
  obtain rfl : c0 = 48 := by rw [← hc0, hc]
  rw [hx] at hix2
  rw [hc0] at hix0
  obtain ⟨L, hL⟩ : ∃ L, s.length = L := ⟨_, rfl⟩
  rw [hL] at s1 hs hK
  have hL0 : (0 : Int) < (L : Int) := by omega
  have hL1 : (0 : Int) < (L : Int) := by omega
  have hL2 : (1 : Int) < (L : Int) := by omega
  clear hng hk1 hc hc0 hL hx
  go_enter Tryd.func7, Tryd.ntmps7
  go_wp2_with fail
  all_goals
    go_ret3
    exact ⟨⟨_, _, _, rfl, RoA.of_bad hb.out.1 (by rw [hb.out.2]; rfl)⟩, Keep.refl _⟩
end Go.Proofs.YtgciimjcdhallaaDoor
