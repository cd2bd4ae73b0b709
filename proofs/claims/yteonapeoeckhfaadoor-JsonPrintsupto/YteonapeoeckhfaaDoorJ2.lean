import Derived.Test.YteonapeoeckhfaaDoorJ1
import Derived.Laws.BytesArg
set_option linter.unusedVariables false
set_option linter.unusedSimpArgs false
namespace Go.Proofs.YteonapeoeckhfaaDoor
open Go.RowKit Go.Shelf
theorem nx_of {s : List UInt8} {k : Nat} (h : k < s.length) : nx s k = (s.getD k 0).toNat := if_pos h
set_option maxRecDepth 100000 in
set_option maxHeartbeats 2000000 in
theorem needs_ok (hI : IxC) (b c k : Nat) (ta : Option Addr) (s ts : List UInt8) (w : World) (hs : s.length ≤ 140737488355328) (hk : k ≤ s.length) (h : Rp w b ta c s k) (ht : tk s ts k = true) :
    Calls Tryd.prog 85 #[.pointer (some ⟨b, 0, none⟩), .string ⟨ts.toArray⟩] w fun e w' => e = .returned (.int .u8 (nx s k : Int)) ∧ Rp w' b ta c s (k + 1) ∧ Kb b w w' := by
  have hN := next_any b c k ta s w hs hk h
  have hT := fun wx hx => takes_any hI b c k ta s ts wx hs hk hx
  rw [ht] at hT
  simp only [if_true] at hT
  clear hI ht
  go_enter Tryd.func85, Tryd.ntmps85
  go_wp2_with (first | (go_at_call 73; refine hN.mono ?_; clear hN; rintro e w1 ⟨rfl, r1, o1⟩; have hT1 := hT w1 r1; clear hT) | (go_at_call 72; refine hT1.mono ?_; clear hT1; rintro e w2 ⟨rfl, r2, o2⟩))
  go_ret
  exact ⟨rfl, r2, o1.trans o2⟩
set_option maxRecDepth 100000 in
set_option maxHeartbeats 2000000 in
theorem needs_bad (hI : IxC) (b c k : Nat) (ta : Option Addr) (s ts : List UInt8) (w : World) (hs : s.length ≤ 140737488355328) (hk : k ≤ s.length) (h : Rp w b ta c s k) (ht : tk s ts k = false) :
    Calls Tryd.prog 85 #[.pointer (some ⟨b, 0, none⟩), .string ⟨ts.toArray⟩] w fun e w' => e = .panicked [PE 100 k] ∧ Kb b w w' := by
  have hN := next_any b c k ta s w hs hk h
  have hT := fun wx hx => takes_any hI b c k ta s ts wx hs hk hx
  rw [ht] at hT
  simp only [Bool.false_eq_true, if_false] at hT
  have hF := fun wx => failAt_any k wx
  clear hI ht
  go_enter Tryd.func85, Tryd.ntmps85
  go_wp2_with (first | (go_at_call 73; refine hN.mono ?_; clear hN; rintro e w1 ⟨rfl, r1, o1⟩; have hT1 := hT w1 r1; clear hT) | (go_at_call 72; refine hT1.mono ?_; clear hT1; rintro e w2 ⟨rfl, r2, o2⟩; have c1 := r2.c1) | (go_at_call 46; refine (hF _).mono ?_; rintro e w3 ⟨rfl, rfl⟩))
  exact ⟨rfl, rfl, o1.trans o2⟩
set_option maxRecDepth 100000 in
set_option maxHeartbeats 2000000 in
theorem blanks_any (hI : IxC) (b c k : Nat) (ta : Option Addr) (s : List UInt8) (w : World) (hs : s.length ≤ 140737488355328) (hk : k ≤ s.length) (h : Rp w b ta c s k) :
    Calls Tryd.prog 61 #[.pointer (some ⟨b, 0, none⟩)] w fun e w' => e = .returned (.tuple #[]) ∧ Rp w' b ta c s (tkE s blS k) ∧ Kb b w w' := by
  obtain ⟨E, hE⟩ : ∃ E, tkE s blS k = E := ⟨_, rfl⟩
  rw [hE]
  have HE : Hid (tkE s blS k = E) := hE
  have HR : Hid (Rp w b ta c s k) := h
  clear hE h
  go_enter Tryd.func61, Tryd.ntmps61
  go_wp2_with fail
  go_loopg [] (s.length - k) (fun gg wr => ∃ j : Nat, j ≤ s.length ∧ gg = s.length - j ∧ Hid (tkE s blS j = E) ∧ Hid (Rp wr b ta c s j) ∧ Kb b w wr)
  case atStart => exact ⟨k, hk, rfl, HE, HR, Kb.refl _ _⟩
  case round =>
    obtain ⟨j, hj, rfl, hje, hR, ho⟩ := hrel
    have hT := takes_any hI b c j ta s blS wr hs hj hR.out
    unfold blS at hT
    by_cases ht : tk s [32, 9, 10, 13] j = true
    · rw [ht] at hT
      simp only [if_true] at hT
      have hlt := tk_lt ht
      have HE2 : Hid (tkE s blS (j + 1) = E) := (tkE_go ht).symm.trans hje.out
      clear ht
      go_wp2_with (go_at_call 72; refine hT.mono ?_; clear hT; rintro e w2 ⟨rfl, r2, o2⟩)
      go_roundg (s.length - (j + 1))
      case measure => omega
      case rel => exact ⟨j + 1, by omega, rfl, HE2, r2, ho.trans o2⟩
    · have ht2 : tk s [32, 9, 10, 13] j = false := by simpa using ht
      rw [ht2] at hT
      simp only [Bool.false_eq_true, if_false] at hT
      have HE2 : Hid (j = E) := (tkE_end ht2).symm.trans hje.out
      clear ht ht2
      go_wp2_with (go_at_call 72; refine hT.mono ?_; clear hT; rintro e w2 ⟨rfl, r2, o2⟩)
      go_end0
      refine ⟨rfl, ?_, ho.trans o2⟩
      rw [← HE2.out]; exact r2
set_option maxRecDepth 100000 in
set_option maxHeartbeats 2000000 in
theorem digits_ok (hI : IxC) (b c k : Nat) (ta : Option Addr) (s : List UInt8) (w : World) (hs : s.length ≤ 140737488355328) (hk : k ≤ s.length) (h : Rp w b ta c s k) (hd : (dg s k).1 = true) :
    Calls Tryd.prog 92 #[.pointer (some ⟨b, 0, none⟩)] w fun e w' => e = .returned (.tuple #[]) ∧ Rp w' b ta c s (dg s k).2 ∧ Kb b w w' := by
  have hd0 : tk s tenD k = true := by
    unfold dg at hd
    cases q : tk s tenD k with
    | true => rfl
    | false => rw [q] at hd; simp at hd
  obtain ⟨E, hE⟩ : ∃ E, tkE s tenD (k + 1) = E := ⟨_, rfl⟩
  have hdE : (dg s k).2 = E := by unfold dg; rw [hd0, ← hE]; rfl
  rw [hdE]
  have hN := needs_ok hI b c k ta s tenD w hs hk h hd0
  have hkl := tk_lt hd0
  have HE : Hid (tkE s tenD (k + 1) = E) := hE
  unfold tenD at hN
  clear hE h hd hd0 hdE
  go_enter Tryd.func92, Tryd.ntmps92
  go_wp2_with (go_at_call 85; refine hN.mono ?_; clear hN; rintro e w1 ⟨rfl, r1, o1⟩; replace r1 : Hid (Rp w1 b ta c s (k + 1)) := r1)
  go_loopg [] (s.length - (k + 1)) (fun gg wr => ∃ j : Nat, j ≤ s.length ∧ gg = s.length - j ∧ Hid (tkE s tenD j = E) ∧ Hid (Rp wr b ta c s j) ∧ Kb b w wr)
  case atStart => exact ⟨k + 1, by omega, rfl, HE, r1, o1⟩
  case round =>
    obtain ⟨j, hj, rfl, hje, hR, ho⟩ := hrel
    have hT := takes_any hI b c j ta s tenD wr hs hj hR.out
    unfold tenD at hT
    by_cases ht : tk s [48, 49, 50, 51, 52, 53, 54, 55, 56, 57] j = true
    · rw [ht] at hT
      simp only [if_true] at hT
      have hlt := tk_lt ht
      have HE2 : Hid (tkE s tenD (j + 1) = E) := (tkE_go ht).symm.trans hje.out
      clear ht
      go_wp2_with (go_at_call 72; refine hT.mono ?_; clear hT; rintro e w2 ⟨rfl, r2, o2⟩)
      go_roundg (s.length - (j + 1))
      case measure => omega
      case rel => exact ⟨j + 1, by omega, rfl, HE2, r2, ho.trans o2⟩
    · have ht2 : tk s [48, 49, 50, 51, 52, 53, 54, 55, 56, 57] j = false := by simpa using ht
      rw [ht2] at hT
      simp only [Bool.false_eq_true, if_false] at hT
      have HE2 : Hid (j = E) := (tkE_end ht2).symm.trans hje.out
      clear ht ht2
      go_wp2_with (go_at_call 72; refine hT.mono ?_; clear hT; rintro e w2 ⟨rfl, r2, o2⟩)
      go_end0
      refine ⟨rfl, ?_, ho.trans o2⟩
      rw [← HE2.out]; exact r2
set_option maxRecDepth 100000 in
set_option maxHeartbeats 2000000 in
theorem digits_bad (hI : IxC) (b c k : Nat) (ta : Option Addr) (s : List UInt8) (w : World) (hs : s.length ≤ 140737488355328) (hk : k ≤ s.length) (h : Rp w b ta c s k) (hd : (dg s k).1 = false) :
    Calls Tryd.prog 92 #[.pointer (some ⟨b, 0, none⟩)] w fun e w' => e = .panicked [PE 100 (dg s k).2] ∧ Kb b w w' := by
  have hd0 : tk s tenD k = false := by
    unfold dg at hd
    cases q : tk s tenD k with
    | false => rfl
    | true => rw [q] at hd; simp at hd
  have hdE : (dg s k).2 = k := by unfold dg; rw [hd0]; rfl
  rw [hdE]
  have hN := needs_bad hI b c k ta s tenD w hs hk h hd0
  unfold tenD at hN
  clear h hd hd0 hdE
  go_enter Tryd.func92, Tryd.ntmps92
  go_wp2_with (go_at_call 85; refine hN.mono ?_; clear hN; rintro e w1 ⟨rfl, o1⟩)
  exact ⟨rfl, rfl, o1⟩
theorem convB (w : World) (tb o c : Nat) (l : List UInt8) (h : ∀ j, j < l.length → w.cell? ⟨tb, o + j, none⟩ = some (.int .u8 ((l.getD j 0).toNat : Int))) :
    (convert 22 9 (.slice (some ⟨tb, o, none⟩) l.length c)).run Tryd.prog w = .ok (.string ⟨l.toArray⟩) w := by
  have := run_convert_bytes_arg (P := Tryd.prog) w 22 5 Tryd.underlying22 Tryd.underlying5 tb o l.length c (l.map (fun x : UInt8 => (x.toNat : Int))) (by simp) (fun i hi => by
    rw [h i hi]
    simp [List.getD, hi]) 9 Tryd.underlying9
  rw [this]
  have e : strOfNums (l.map (fun x : UInt8 => (x.toNat : Int))) = ⟨l.toArray⟩ := by
    have hid : ((fun n : Int => UInt8.ofNat n.toNat) ∘ fun x : UInt8 => (x.toNat : Int)) = id := by
      funext x
      simp
    unfold strOfNums
    rw [List.map_map, hid, List.map_id]
  rw [e]
set_option maxRecDepth 100000 in
/-- A part of a text that lies in memory, as a string. -/
theorem cut_str {w : World} {ta : Option Addr} {c : Nat} {s : List UInt8} (h : RdB w ta s) (hc : s.length ≤ c) {f i : Nat} (hf : f ≤ i) (hi : i ≤ s.length) :
    ∃ ad, (∀ wx, (Instr.slice 22 (.slice ta s.length c) (some (.int .i64 (f : Int))) (some (.int .i64 (i : Int))) none).run Tryd.prog wx = .ok (.slice ad (i - f) (c - f)) wx) ∧
      ∀ q, (convert 22 9 (.slice ad (i - f) (c - f))).run Tryd.prog (w.drewN q) = .ok (.string ⟨((s.take i).drop f).toArray⟩) (w.drewN q) := by
  have hl : ((s.take i).drop f).length = i - f := by simp; omega
  refine ⟨if c = f then ta else ta.map (·.add (f * 1)), fun wx => ?_, fun q => ?_⟩
  · have h1 := run_slice_lh (P := Tryd.prog) wx 22 ta s.length c Tryd.underlying22 .i64 .i64 (f : Int) (i : Int) (by omega) (by omega) (by omega)
    have hs : (sizeOf (Tryd.prog.elem 22)).run Tryd.prog wx = .ok 1 wx := by rfl
    rw [hs] at h1
    exact h1
  · by_cases hfi : f < i
    · obtain ⟨tb, o, rfl, -⟩ := h f (by omega)
      rw [if_neg (by omega)]
      have := convB (w.drewN q) tb (o + f * 1) (c - f) ((s.take i).drop f) (fun j hj => by
        rw [hl] at hj
        obtain ⟨tb2, o2, e, hc2⟩ := h (f + j) (by omega)
        simp only [Option.some.injEq, Addr.mk.injEq, and_true] at e
        obtain ⟨rfl, rfl⟩ := e
        have e2 : ((s.take i).drop f).getD j 0 = s.getD (f + j) 0 := by
          simp only [List.getD, List.getElem?_drop, List.getElem?_take]
          rw [if_pos (by omega)]
        rw [e2, Nat.mul_one, Nat.add_assoc]
        exact hc2)
      rw [hl] at this
      have e3 : (⟨tb, o, none⟩ : Addr).add (f * 1) = ⟨tb, o + f * 1, none⟩ := by
        unfold Addr.add
        split <;> simp_all
      rw [Option.map_some, e3]
      exact this
    · have e : (s.take i).drop f = [] := List.eq_nil_of_length_eq_zero (by omega)
      have e0 : i - f = 0 := by omega
      rw [e, e0]
      generalize (if c = f then ta else ta.map (·.add (f * 1))) = ad
      cases ad with
      | none => exact run_convert_bytes_nil (P := Tryd.prog) (w.drewN q) 22 5 Tryd.underlying22 Tryd.underlying5 0 (c - f) 9 Tryd.underlying9
      | some a =>
        have := run_convert_bytes_string (P := Tryd.prog) (w.drewN q) 22 9 5 (some a) 0 (c - f) Tryd.underlying22 Tryd.underlying5 Tryd.underlying9
        rw [this]
        simp [Conv.bytesToString]
        first | rfl | skip
end Go.Proofs.YteonapeoeckhfaaDoor
