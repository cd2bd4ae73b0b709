import Derived.Test.YteonapeoeckhfaaDoorJB
set_option linter.unusedVariables false
set_option linter.unusedSimpArgs false
namespace Go.Proofs.YteonapeoeckhfaaDoor
open Go.RowKit Go.Shelf
set_option maxRecDepth 100000 in
set_option maxHeartbeats 2000000 in
theorem takes_any (hI : IxC) (b c k : Nat) (ta : Option Addr) (s ts : List UInt8) (w : World) (hs : s.length ≤ 140737488355328) (hk : k ≤ s.length) (h : Rp w b ta c s k) :
    Calls Tryd.prog 72 #[.pointer (some ⟨b, 0, none⟩), .string ⟨ts.toArray⟩] w fun e w' => e = .returned (.bool (tk s ts k)) ∧ Rp w' b ta c s (if tk s ts k then k + 1 else k) ∧ Kb b w w' := by
  have c0 := h.c0
  have c1 := h.c1
  have f1 := h.f1 1
  have HR : Hid (Rp w b ta c s k) := h
  obtain ⟨L, hL⟩ : ∃ L, s.length = L := ⟨_, rfl⟩
  rw [hL] at hs hk c0
  by_cases hkl : k < L
  · obtain ⟨tb, o, rfl, hc⟩ := h.rd k (by omega)
    clear h
    have hne : ¬ ((k : Int) = (L : Int)) := by omega
    have hneb : ((k : Int) == (L : Int)) = false := by simpa using hne
    have hkz : (0 : Int) ≤ (k : Int) ∧ (k : Int) < (L : Int) := by omega
    obtain ⟨x, hx⟩ : ∃ x, s.getD k 0 = x := ⟨_, rfl⟩
    rw [hx] at hc
    have hIc := hI ts x
    by_cases hm : x ∈ ts
    · have ht : tk s ts k = true := by unfold tk; rw [hx]; exact decide_eq_true ⟨by omega, hm⟩
      have hlt : ¬ Lib.indexByte ts x < 0 := fun q => (ixB ts x).1 q hm
      generalize Lib.indexByte ts x = r at hIc hlt
      rw [ht]
      clear hI hx hm ht
      go_enter Tryd.func72, Tryd.ntmps72
      go_wp2_with fail
      refine wp_region_quiet_lit (by kernel_rfl) (by kernel_rfl) ?_
      iterate 25
        with_reducible refine wpQuiet_step ?_
        intro K hK
        go_simp
        first
          | (with_reducible refine hK _ ?_; clear hK K)
          | (with_reducible refine (if_neg ?_).mpr (hK _ ?_)
             · decide
             clear hK K)
          | (with_reducible refine ⟨.int .i64 r, fun aw => (hIc _).mono ?_, hK _ ?_⟩
             · rintro e w' ⟨rfl, rfl⟩; exact ⟨rfl, _, rfl⟩
             clear hK K)
          | (apply Exists.intro
             refine ⟨fun _ => ?_, hK _ ?_⟩
             · with_reducible rfl
             clear hK K)
      refine wpQuiet_nil ?_
      rintro _ ⟨nq, rfl⟩
      have hR2 := HR.out.drewN nq
      have fz := hR2.f1 1
      have cz := hR2.c1
      have q1 := hR2.set (k + 1)
      have q2 := (Kb.refl b w).drewN nq
      have q3 := q2.set 1 (.int .i64 ((k + 1 : Nat) : Int))
      generalize w.drewN nq = wv at fz cz q1 q3 ⊢
      have hcast : ((k + 1 : Nat) : Int) = (k : Int) + 1 := by omega
      rw [hcast] at q1 q3
      clear hR2 q2 hcast c0 c1 f1
      go_wp2_with fail
      go_ret
      exact ⟨rfl, q1, q3⟩
    · have ht : tk s ts k = false := by unfold tk; rw [hx]; exact decide_eq_false (fun q => hm q.2)
      have hlt : Lib.indexByte ts x < 0 := (ixB ts x).2 hm
      generalize Lib.indexByte ts x = r at hIc hlt
      rw [ht]
      clear hI hx hm ht
      go_enter Tryd.func72, Tryd.ntmps72
      go_wp2_with fail
      refine wp_region_quiet_lit (by kernel_rfl) (by kernel_rfl) ?_
      iterate 25
        with_reducible refine wpQuiet_step ?_
        intro K hK
        go_simp
        first
          | (with_reducible refine hK _ ?_; clear hK K)
          | (with_reducible refine (if_neg ?_).mpr (hK _ ?_)
             · decide
             clear hK K)
          | (with_reducible refine ⟨.int .i64 r, fun aw => (hIc _).mono ?_, hK _ ?_⟩
             · rintro e w' ⟨rfl, rfl⟩; exact ⟨rfl, _, rfl⟩
             clear hK K)
          | (apply Exists.intro
             refine ⟨fun _ => ?_, hK _ ?_⟩
             · with_reducible rfl
             clear hK K)
      refine wpQuiet_nil ?_
      rintro _ ⟨nq, rfl⟩
      go_wp2_with fail
      go_ret
      exact ⟨rfl, HR.out.drewN nq, (Kb.refl b w).drewN nq⟩
  · obtain rfl : k = L := by omega
    have ht : tk s ts k = false := by unfold tk; exact decide_eq_false (fun q => by omega)
    rw [ht]
    clear hI ht h
    go_enter Tryd.func72, Tryd.ntmps72
    go_wp2_with fail
    refine wp_region_quiet_lit (by kernel_rfl) (by kernel_rfl) ?_
    iterate 25
      with_reducible refine wpQuiet_step ?_
      intro K hK
      go_simp
      first
        | (with_reducible refine hK _ ?_; clear hK K)
        | (with_reducible refine (if_neg ?_).mpr (hK _ ?_)
           · decide
           clear hK K)
        | (apply Exists.intro
           refine ⟨fun _ => ?_, hK _ ?_⟩
           · with_reducible rfl
           clear hK K)
    refine wpQuiet_nil ?_
    rintro _ ⟨nq, rfl⟩
    go_wp2_with fail
    go_ret
    exact ⟨rfl, HR.out.drewN nq, (Kb.refl b w).drewN nq⟩
/-- The next byte; 0 at the end. -/
def nx (s : List UInt8) (k : Nat) : Nat := if k < s.length then (s.getD k 0).toNat else 0
set_option maxRecDepth 100000 in
set_option maxHeartbeats 2000000 in
theorem next_any (b c k : Nat) (ta : Option Addr) (s : List UInt8) (w : World) (hs : s.length ≤ 140737488355328) (hk : k ≤ s.length) (h : Rp w b ta c s k) :
    Calls Tryd.prog 73 #[.pointer (some ⟨b, 0, none⟩)] w fun e w' => e = .returned (.int .u8 (nx s k : Int)) ∧ Rp w' b ta c s k ∧ Kb b w w' := by
  have HR : Hid (Rp w b ta c s k) := h
  have c0 := h.c0
  have c1 := h.c1
  obtain ⟨L, hL⟩ : ∃ L, s.length = L := ⟨_, rfl⟩
  have hnx : nx s k = if k < L then (s.getD k 0).toNat else 0 := by unfold nx; rw [hL]
  rw [hnx]
  rw [hL] at hs hk c0
  by_cases hkl : k < L
  · obtain ⟨tb, o, rfl, hc⟩ := h.rd k (by omega)
    clear h
    have hne : ¬ ((k : Int) = (L : Int)) := by omega
    have hneb : ((k : Int) == (L : Int)) = false := by simpa using hne
    have hkz : (0 : Int) ≤ (k : Int) ∧ (k : Int) < (L : Int) := by omega
    obtain ⟨x, hx⟩ : ∃ x, (s.getD k 0).toNat = x := ⟨_, rfl⟩
    rw [hx] at hc
    rw [if_pos hkl, hx]
    clear hnx hx hL
    go_enter Tryd.func73, Tryd.ntmps73
    go_wp2_with fail
    go_quiet (fail)
    go_wp2_with fail
    go_quiet (fail)
    go_wp2_with fail
    go_ret
    exact ⟨rfl, (HR.out.drewN _).drewN _, ((Kb.refl b w).drewN _).drewN _⟩
  · obtain rfl : k = L := by omega
    rw [if_neg hkl]
    clear h hnx hL
    go_enter Tryd.func73, Tryd.ntmps73
    go_wp2_with fail
    go_quiet (fail)
    go_wp2_with fail
    go_ret
    exact ⟨rfl, HR.out.drewN _, (Kb.refl b w).drewN _⟩
end Go.Proofs.YteonapeoeckhfaaDoor
