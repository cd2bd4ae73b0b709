import Derived.Test.YteonapeoeckhfaaDoorQ1
import Derived.Test.YteonapeoeckhfaaDoorJ6
import Derived.Deep.CutBlock
import Derived.Deep.CutRange
set_option linter.unusedVariables false
set_option linter.unusedSimpArgs false
namespace Go.Proofs.YteonapeoeckhfaaDoor
open Go.RowKit Go.Shelf
theorem nx_is {s : List UInt8} {k : Nat} (c : UInt8) (hc : c ≠ 0) : ((nx s k : Int) == (c.toNat : Int)) = tk s [c] k := by
  rw [beqNat]
  unfold nx tk
  by_cases h : k < s.length
  · rw [if_pos h, Bool.eq_iff_iff, beq_iff_eq, decide_eq_true_iff, List.mem_singleton]
    constructor
    · intro e; exact ⟨h, UInt8.toNat_inj.1 e⟩
    · rintro ⟨-, e⟩; rw [e]
  · rw [if_neg h, Bool.eq_iff_iff, beq_iff_eq, decide_eq_true_iff]
    constructor
    · intro e; exact absurd (UInt8.toNat_inj.1 (show (0 : UInt8).toNat = c.toNat from e)).symm hc
    · rintro ⟨q, -⟩; exact absurd q h
set_option maxRecDepth 100000 in
theorem mem_tenD (b : UInt8) : b ∈ tenD ↔ 48 ≤ b.toNat ∧ b.toNat ≤ 57 := by
  have : ∀ n : Fin 256, (UInt8.ofNat n.val ∈ tenD ↔ 48 ≤ n.val ∧ n.val ≤ 57) := by decide
  have h := this ⟨b.toNat, b.toNat_lt⟩
  simpa using h
theorem nx_dig (s : List UInt8) (k : Nat) : decide (48 ≤ nx s k ∧ nx s k ≤ 57) = tk s tenD k := by
  unfold nx tk
  by_cases h : k < s.length
  · rw [if_pos h, Bool.eq_iff_iff, decide_eq_true_iff, decide_eq_true_iff, mem_tenD]
    exact ⟨fun e => ⟨h, e⟩, fun e => e.2⟩
  · rw [if_neg h, Bool.eq_iff_iff, decide_eq_true_iff, decide_eq_true_iff]
    exact ⟨fun e => by omega, fun e => absurd e.1 h⟩
set_option maxRecDepth 100000 in
set_option maxHeartbeats 4000000 in
theorem rdigits_ok (b c k z : Nat) (ta : Option Addr) (s : List UInt8) (w : World) (hs : s.length ≤ 140737488355328) (hk : k ≤ s.length) (h : Rg w b ta c s k 0 z) (hd : (dg s k).1 = true) :
    Calls Tryd.prog 64 #[.pointer (some ⟨b, 0, none⟩)] w fun e w' => e = .returned (.tuple #[]) ∧ Rg w' b ta c s (dg s k).2 0 z ∧ Kb b w w' := by
  have hd0 : tk s tenD k = true := by
    unfold dg at hd
    cases q : tk s tenD k with
    | true => rfl
    | false => rw [q] at hd; simp at hd
  obtain ⟨E, hE⟩ : ∃ E, tkE s tenD k = E := ⟨_, rfl⟩
  have hdE : (dg s k).2 = E := by unfold dg; rw [hd0, ← hE, tkE_go hd0]; rfl
  rw [hdE]
  have HE : Hid (tkE s tenD k = E) := hE
  have hN := rnext_any b c k 0 z ta s w hs hk h
  have hD := risDigit_any (nx s k)
  rw [nx_dig, hd0] at hD
  clear hE hd hdE hd0 h
  go_enter Tryd.func64, Tryd.ntmps64
  go_wp2_with (first | (go_at_call 63; refine hN.mono ?_; clear hN; rintro e w1 ⟨rfl, r1, o1⟩; replace r1 : Hid (Rg w1 b ta c s k 0 z) := r1) | (go_at_call 48; refine (hD _).mono ?_; clear hD; rintro e wz ⟨rfl, hz⟩; rw [hz]; clear hz wz))
  go_loopg [] (s.length - k) (fun gg wr => ∃ j : Nat, j ≤ s.length ∧ gg = s.length - j ∧ Hid (tkE s tenD j = E) ∧ Hid (Rg wr b ta c s j 0 z) ∧ Kb b w wr)
  case atStart => exact ⟨k, hk, rfl, HE, r1, o1⟩
  case round =>
    obtain ⟨j, hj, rfl, hje, hR, ho⟩ := hrel
    have hN := rnext_any b c j 0 z ta s wr hs hj hR.out
    have hD := risDigit_any (nx s j)
    rw [nx_dig] at hD
    by_cases ht : tk s tenD j = true
    · rw [ht] at hD
      have hlt := tk_lt ht
      have HE2 : Hid (tkE s tenD (j + 1) = E) := (tkE_go ht).symm.trans hje.out
      clear ht
      go_wp2_with (first
        | (go_at_call 63; refine hN.mono ?_; clear hN; rintro e w2 ⟨rfl, r2, o2⟩)
        | (go_at_call 48; refine (hD _).mono ?_; clear hD; rintro e wz ⟨rfl, hz⟩; rw [hz]; clear hz wz
           have q1 := r2.setK (j + 1)
           have q3 := o2.set 1 (.int .i64 ((j + 1 : Nat) : Int))
           obtain ⟨-, c1, -, -, f1, -⟩ := r2.cells
           have hcast : ((j + 1 : Nat) : Int) = (j : Int) + 1 := by omega
           rw [hcast] at q1 q3
           clear hcast r2))
      go_roundg (s.length - (j + 1))
      case measure => omega
      case rel => exact ⟨j + 1, by omega, rfl, HE2, q1, ho.trans q3⟩
    · have ht2 : tk s tenD j = false := by simpa using ht
      rw [ht2] at hD
      have HE2 : Hid (j = E) := (tkE_end ht2).symm.trans hje.out
      clear ht ht2
      go_wp2_with (first
        | (go_at_call 63; refine hN.mono ?_; clear hN; rintro e w2 ⟨rfl, r2, o2⟩)
        | (go_at_call 48; refine (hD _).mono ?_; clear hD; rintro e wz ⟨rfl, hz⟩; rw [hz]; clear hz wz))
      go_end0
      refine ⟨rfl, ?_, ho.trans o2⟩
      rw [← HE2.out]; exact r2
set_option maxRecDepth 100000 in
set_option maxHeartbeats 4000000 in
theorem rdigits_bad (b c k z : Nat) (ta : Option Addr) (s : List UInt8) (w : World) (hs : s.length ≤ 140737488355328) (hk : k ≤ s.length) (h : Rg w b ta c s k 0 z) (hd : (dg s k).1 = false) :
    Calls Tryd.prog 64 #[.pointer (some ⟨b, 0, none⟩)] w fun e w' => e = .returned (.tuple #[]) ∧ Rg w' b ta c s (dg s k).2 100 (dg s k).2 ∧ Kb b w w' := by
  have hd0 : tk s tenD k = false := by
    unfold dg at hd
    cases q : tk s tenD k with
    | false => rfl
    | true => rw [q] at hd; simp at hd
  have hdE : (dg s k).2 = k := by unfold dg; rw [hd0]; rfl
  rw [hdE]
  have hN := rnext_any b c k 0 z ta s w hs hk h
  have hD := risDigit_any (nx s k)
  rw [nx_dig, hd0] at hD
  have hF := fun wx hx => rfail_any b c k z 100 k ta s wx hx
  clear hd hdE hd0 h
  go_enter Tryd.func64, Tryd.ntmps64
  have hD1 := hD
  go_wp2_with (first | (go_at_call 63; refine hN.mono ?_; clear hN; rintro e w1 ⟨rfl, r1, o1⟩; have hF1 := hF w1 r1; clear hF) | (go_at_call 48; refine (hD1 _).mono ?_; clear hD1; rintro e wz ⟨rfl, hz⟩; rw [hz]; clear hz wz; obtain ⟨-, c1, -⟩ := r1.cells) | (go_at_call 28; refine hF1.mono ?_; clear hF1; rintro e w2 ⟨rfl, r2, o2⟩; replace r2 : Hid (Rg w2 b ta c s k 100 k) := r2))
  go_loopg [] 1 (fun gg wr => gg = 1 ∧ Hid (Rg wr b ta c s k 100 k) ∧ Kb b w wr)
  case atStart => exact ⟨rfl, r2, o1.trans o2⟩
  case round =>
    obtain ⟨rfl, hR, ho⟩ := hrel
    have hN := rnext_any b c k 100 k ta s wr hs hk hR.out
    go_wp2_with (first
      | (go_at_call 63; refine hN.mono ?_; clear hN; rintro e w2 ⟨rfl, r2, o2⟩)
      | (go_at_call 48; refine (hD _).mono ?_; clear hD; rintro e wz ⟨rfl, hz⟩; rw [hz]; clear hz wz))
    go_end0
    exact ⟨rfl, r2, ho.trans o2⟩
end Go.Proofs.YteonapeoeckhfaaDoor
