import Derived.Test.YtonfjmibnnioiaaDoorV4
set_option linter.unusedVariables false
set_option linter.unusedSimpArgs false
namespace Go.Proofs.YtonfjmibnnioiaaDoor
open Go.RowKit Go.Shelf
/-- A list cut at the first such byte. -/
theorem cut_at : ∀ (l : List UInt8) (y : UInt8), y ∈ l → ∃ q, l = l.takeWhile (· ≠ y) ++ y :: q
  | c :: l, y, h => by
    by_cases hc : c = y
    · subst hc; exact ⟨l, by simp⟩
    · have h2 : y ∈ l := by
        rcases List.mem_cons.1 h with h | h
        · exact absurd h.symm hc
        · exact h
      obtain ⟨q, hq⟩ := cut_at l y h2
      refine ⟨q, ?_⟩
      rw [List.takeWhile_cons, if_pos (by simpa using hc), List.cons_append, ← hq]
theorem tw_ne (l : List UInt8) (y : UInt8) : ∀ c ∈ l.takeWhile (· ≠ y), c ≠ y := by
  intro c hc
  have := List.all_takeWhile (p := fun x : UInt8 => decide (x ≠ y)) (l := l)
  rw [List.all_eq_true] at this
  simpa using this c hc
theorem tw_all : ∀ (l : List UInt8) (y : UInt8), y ∉ l → l.takeWhile (· ≠ y) = l
  | [], _, _ => rfl
  | c :: l, y, h => by
    have h1 : c ≠ y := fun e => h (e ▸ List.mem_cons_self ..)
    rw [List.takeWhile_cons, if_pos (by simpa using h1), tw_all l y (fun e => h (List.mem_cons_of_mem _ e))]
theorem ud_none (l acc : List UInt8) (n : Nat) (h : (34 : UInt8) ∉ l) : ud l acc n = ([], n + l.length, false) := by
  have := ud_run l [] acc n (fun c hc e => h (e ▸ hc))
  rw [List.append_nil] at this
  rw [this, ud_nil]
set_option maxRecDepth 100000 in
set_option maxHeartbeats 4000000 in
theorem undoubled_any (c0 : UInt8) (r : List UInt8) (w : World) (hs : r.length ≤ 1099511627770) : Calls Tryd.prog 59 #[.string ⟨(c0 :: r).toArray⟩] w fun e w' => e = .returned (uqV (ud r [] 1)) ∧ Keep w w' := by
  obtain ⟨l, hl⟩ : ∃ l : List UInt8, l = c0 :: r := ⟨_, rfl⟩
  have hln : l.length = r.length + 1 := by rw [hl]; rfl
  have hsz := sz_mk l
  have hl1 : l.drop 1 = r := by rw [hl]; rfl
  have hsl : ∀ w, (Instr.slice 9 (.string ⟨l.toArray⟩) (some (.int .i64 1)) none none).run Tryd.prog w = .ok (.string ⟨r.toArray⟩) w := fun w => by
    have := run_from l 1 (by omega) w
    rw [hl1] at this
    exact this
  rw [← hl]
  obtain ⟨R, hR⟩ : ∃ R, ud r [] 1 = R := ⟨_, rfl⟩
  rw [hR]
  have HR : Hid (ud r [] (l.length - r.length) = R) := by unfold Hid; rw [hln, show r.length + 1 - r.length = 1 by omega]; exact hR
  have hbl : l.length ≤ 1099511627771 := by omega
  have hrl : r.length ≤ l.length := by omega
  clear hl hl1 hR hln hs
  obtain ⟨w1, hw1⟩ : ∃ w1, w.alloc (.cells #[.pointer none, .slice none 0 0] 61) = w1 := ⟨_, rfl⟩
  have hB := Bd.fresh w
  rw [hw1] at hB
  go_enter Tryd.func59, Tryd.ntmps59
  go_wp2_with (first | rw [hw1] | rw [hsl])
  go_loopw [6] (fun rv wr => ∃ (rl acc : List UInt8), rv = .string ⟨rl.toArray⟩ ∧ rl.length ≤ l.length ∧ acc.length ≤ l.length - rl.length ∧ Bd w acc wr ∧ Hid (ud rl acc (l.length - rl.length) = R)) (fun rv _ => (match rv with | .string s => s.size | _ => 0))
  case atStart => exact ⟨r, [], rfl, hrl, by simp, hB, HR⟩
  case round =>
    obtain ⟨rl, acc, rfl, hk, hac, hBw, H⟩ := hrel
    clear hB HR hw1 hsl
    have hI := IndexByte_any rl 34 wr
    have hsr := sz_mk rl
    by_cases hm : (34 : UInt8) ∈ rl
    · obtain ⟨q, hq⟩ := cut_at rl 34 hm
      have hix : ixB rl 34 = ((rl.takeWhile (· ≠ 34)).length : Nat) := by unfold ixB; rw [if_pos hm]
      rw [hix] at hI
      have hne := tw_ne rl 34
      generalize rl.takeWhile (· ≠ 34) = p at *
      have hC := H.out
      rw [hq, ud_run p (34 :: q) acc _ hne] at hC
      have hrl : rl.length = p.length + (q.length + 1) := by rw [hq, List.length_append, List.length_cons]
      have hs1 : ∀ w, (Instr.slice 9 (.string ⟨rl.toArray⟩) none (some (.int .i64 (p.length : Int))) none).run Tryd.prog w = .ok (.string ⟨p.toArray⟩) w := fun w => by
        have := run_upto rl p.length (by omega) w
        rw [show rl.take p.length = p by rw [hq, List.take_left]] at this
        exact this
      have hs2 : ∀ w, (Instr.slice 9 (.string ⟨rl.toArray⟩) (some (.int .i64 ((p.length : Int) + 1))) none none).run Tryd.prog w = .ok (.string ⟨q.toArray⟩) w := fun w => by
        have := run_from rl (p.length + 1) (by omega) w
        rw [show rl.drop (p.length + 1) = q by rw [hq, ← List.drop_drop, List.drop_left]; rfl] at this
        exact this
      have hpos : ((p.length : Int) < 0) = False := by simp
      have hWS := WriteString_any w acc p wr hBw (by omega)
      have hsq := sz_mk q
      have hpb : p.length ≤ 1099511627771 := by omega
      rw [List.length_append, List.length_cons] at hC
      cases q with
      | nil =>
        rw [ud_end] at hC
        replace hC : Hid _ := hC
        have HL : Hid (rl.length = p.length + 1) := hrl
        have hsub : (l.length : Int) - ((([] : List UInt8).length : Nat) : Int) = ((l.length : Nat) : Int) := by simp
        clear hm hq hix hne hrl hac H
        have hP := fun wx => HasPrefix_any [] [34] wx
        have hPf : ([34] : List UInt8).isPrefixOf [] = false := rfl
        rw [hPf] at hP
        go_wp2_with (first
          | rw [hs1]
          | rw [hs2]
          | (go_at_call 60; refine hI.mono ?_; rintro e' w0 ⟨rfl, hw0⟩; rw [hw0]; clear hw0)
          | (go_at_call 43; refine hWS.mono ?_; rintro e' w2 ⟨⟨vx, rfl⟩, hB2⟩; have hS := String_any w (acc ++ p) w2 hB2)
          | (go_at_call 52; refine (hP _).mono ?_; rintro e' w0 ⟨rfl, hw0⟩; rw [hw0]; clear hw0)
          | (go_at_call 45; refine hS.mono ?_; rintro e' w3 ⟨rfl, k3⟩))
        go_ret3
        refine ⟨?_, k3⟩
        rw [← hC.out]
        have := HL.out
        unfold uqV
        simp only [List.length_nil]
        rw [show l.length - (p.length + (0 + 1)) + p.length + 1 = l.length by omega]
        rfl
      | cons d q2 =>
        have hP := fun wx => HasPrefix_any (d :: q2) [34] wx
        have HL : Hid (rl.length = p.length + (q2.length + 2)) := by unfold Hid; rw [hrl, List.length_cons]
        by_cases hd : d = 34
        · subst hd
          rw [ud_two] at hC
          have hPt : ([34] : List UInt8).isPrefixOf (34 :: q2) = true := by simp [List.isPrefixOf]
          rw [hPt] at hP
          have hs3 : ∀ w, (Instr.slice 9 (.string ⟨((34 : UInt8) :: q2).toArray⟩) (some (.int .i64 1)) none none).run Tryd.prog w = .ok (.string ⟨q2.toArray⟩) w := fun w => run_from (34 :: q2) 1 (by simp) w
          have hC' : Hid (ud q2 ((acc ++ p) ++ [34]) (l.length - q2.length) = R) := by
            unfold Hid; rw [← hC, List.length_cons, show l.length - (p.length + (q2.length + 1 + 1)) + p.length + 2 = l.length - q2.length by have := HL.out; omega]
          clear hm hq hix hne hrl hC H
          obtain ⟨Q, hQ⟩ : ∃ Q : List UInt8, Q = 34 :: q2 := ⟨_, rfl⟩
          rw [← hQ] at hs2 hP hs3
          replace hQ : Hid _ := hQ
          go_wp2_with (first
            | rw [hs1]
            | rw [hs2]
            | rw [hs3]
            | (go_at_call 60; refine hI.mono ?_; rintro e' w0 ⟨rfl, hw0⟩; rw [hw0]; clear hw0)
            | (go_at_call 43; refine hWS.mono ?_; rintro e' w2 ⟨⟨vx, rfl⟩, hB2⟩; have hWB := WriteByte_any w (acc ++ p) 34 w2 hB2 (by rw [List.length_append]; have := HL.out; omega))
            | (go_at_call 52; refine (hP _).mono ?_; rintro e' w0 ⟨rfl, hw0⟩; rw [hw0]; clear hw0)
            | (go_at_call 42; refine hWB.mono ?_; rintro e' w3 ⟨rfl, hB3⟩))
          go_roundw
          case rel => exact ⟨q2, (acc ++ p) ++ [34], rfl, by have := HL.out; omega, by rw [List.length_append, List.length_append, List.length_singleton]; have := HL.out; omega, hB3, hC'.out⟩
          case measure => have := HL.out; have := sz_mk q2; simp only []; omega
        · rw [ud_last d q2 _ _ hd] at hC
          have hPt : ([34] : List UInt8).isPrefixOf (d :: q2) = false := by simp [List.isPrefixOf]; exact fun e => hd e.symm
          rw [hPt] at hP
          replace hC : Hid _ := hC
          clear hm hq hix hne hrl H
          obtain ⟨Q, hQ⟩ : ∃ Q : List UInt8, Q = d :: q2 := ⟨_, rfl⟩
          rw [← hQ] at hs2 hP hsq
          have hQl : Q.length ≤ l.length := by rw [hQ, List.length_cons]; have := HL.out; omega
          replace hQ : Hid _ := hQ
          go_wp2_with (first
            | rw [hs1]
            | rw [hs2]
            | (go_at_call 60; refine hI.mono ?_; rintro e' w0 ⟨rfl, hw0⟩; rw [hw0]; clear hw0)
            | (go_at_call 43; refine hWS.mono ?_; rintro e' w2 ⟨⟨vx, rfl⟩, hB2⟩; have hS := String_any w (acc ++ p) w2 hB2)
            | (go_at_call 52; refine (hP _).mono ?_; rintro e' w0 ⟨rfl, hw0⟩; rw [hw0]; clear hw0)
            | (go_at_call 45; refine hS.mono ?_; rintro e' w3 ⟨rfl, k3⟩))
          go_ret3
          refine ⟨?_, k3⟩
          rw [← hC.out]
          have h1 := HL.out
          have h2 := congrArg List.length hQ.out
          rw [List.length_cons] at h2
          unfold uqV
          simp only [List.length_cons]
          rw [show l.length - (p.length + (q2.length + 1 + 1)) + p.length + 1 = l.length - Q.length by omega]
          rw [Int.ofNat_sub hQl]
          rfl
    · have hix : ixB rl 34 = -1 := by unfold ixB; rw [if_neg hm]
      rw [hix] at hI
      have hC := H.out
      rw [ud_none rl acc _ hm, show l.length - rl.length + rl.length = l.length by omega] at hC
      have hK : Keep w wr := hBw.1
      replace hC : Hid _ := hC
      clear hm hix H hac
      go_wp2_with (go_at_call 60; refine hI.mono ?_; rintro e' w0 ⟨rfl, hw0⟩; rw [hw0]; clear hw0)
      go_ret3
      exact ⟨by rw [← hC.out]; rfl, hK⟩
end Go.Proofs.YtonfjmibnnioiaaDoor
