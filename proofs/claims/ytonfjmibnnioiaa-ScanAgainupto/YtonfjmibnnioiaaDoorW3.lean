import Derived.Test.YtonfjmibnnioiaaDoorW2
set_option linter.unusedVariables false
set_option linter.unusedSimpArgs false
namespace Go.Proofs.YtonfjmibnnioiaaDoor
open Go.RowKit Go.Shelf
theorem take_snoc (l : List UInt8) (k : Nat) (h : k < l.length) : l.take (k + 1) = l.take k ++ [l.getD k 0] := by
  rw [List.take_succ_eq_append_getElem h]; simp [List.getD, h]
/-- What is said of the first k bytes. -/
def qk (l : List UInt8) (k : Nat) : List UInt8 := 34 :: (l.take k).flatMap qc
theorem qk_next (l : List UInt8) (k : Nat) (h : k < l.length) : qk l (k + 1) = qk l k ++ qc (l.getD k 0) := by
  unfold qk
  rw [take_snoc l k h, List.flatMap_append, List.cons_append]
  simp
theorem qk_len (l : List UInt8) (k : Nat) : (qk l k).length ≤ 4 * k + 1 := by
  unfold qk
  have := qc_len (l.take k)
  rw [List.length_cons]
  have h2 : (l.take k).length ≤ k := by rw [List.length_take]; omega
  omega
theorem qk_all (l : List UInt8) : qk l l.length ++ [34] = qt l := by
  unfold qk qt
  rw [List.take_length]; rfl
theorem hx_at (j : Nat) (h : j < 16) {h' : j < (ByteArray.mk #[48, 49, 50, 51, 52, 53, 54, 55, 56, 57, 97, 98, 99, 100, 101, 102]).size} : (ByteArray.mk #[48, 49, 50, 51, 52, 53, 54, 55, 56, 57, 97, 98, 99, 100, 101, 102])[j]'h' = hxD j := by
  have : ∀ j, j < 16 → (if h : j < 16 then (ByteArray.mk #[48, 49, 50, 51, 52, 53, 54, 55, 56, 57, 97, 98, 99, 100, 101, 102])[j]'h else 0) = hxD j := by decide +kernel
  have := this j h
  rw [dif_pos h] at this
  exact this
set_option maxRecDepth 100000 in
set_option maxHeartbeats 1000000 in
theorem Quote_any (l : List UInt8) (w : World) (hs : l.length ≤ 68719476736) : Calls Tryd.prog 22 #[.string ⟨l.toArray⟩] w fun e w' => e = .returned (.string ⟨(qt l).toArray⟩) ∧ Keep w w' := by
  have hsz := sz_mk l
  obtain ⟨w1, hw1⟩ : ∃ w1, w.alloc (.cells #[.pointer none, .slice none 0 0] 61) = w1 := ⟨_, rfl⟩
  have hB := Bd.fresh w
  rw [hw1] at hB
  have hW := WriteByte_any w [] 34 w1 hB (by simp)
  go_enter Tryd.func22, Tryd.ntmps22
  go_wp2_with (first | rw [hw1] | (go_at_call 42; refine hW.mono ?_; rintro e' w2 ⟨rfl, hB2⟩; clear hW))
  go_loopw [9] (fun iv wr => ∃ (k : Nat) (A : List UInt8), iv = .int .i64 k ∧ k ≤ l.length ∧ Bd w A wr ∧ Hid (A = qk l k)) (fun iv _ => l.length - (intOf iv).toNat)
  case atStart => exact ⟨0, [34], rfl, by omega, hB2, rfl⟩
  case round =>
    obtain ⟨k, A, rfl, hk, hBw, HA⟩ := hrel
    clear hB hw1 hB2
    have hAl : A.length ≤ 4 * k + 1 := by rw [HA.out]; exact qk_len l k
    by_cases hlt : k < l.length
    · have hx := run_ix l k hlt
      have hltc : decide ((k : Int) < (l.length : Int)) = true := decide_eq_true (by omega)
      have HN := qk_next l k hlt
      rw [← HA.out] at HN
      have HK : Hid (k < l.length) := hlt
      obtain ⟨c, hc⟩ : ∃ c, l.getD k 0 = c := ⟨_, rfl⟩
      rw [hc] at hx HN
      have hAb : A.length + 8 ≤ 1099511627776 := by omega
      clear hlt hc HA hAl
      unfold qc at HN
      by_cases c1 : c = 34 ∨ c = 92
      · rw [if_pos c1] at HN
        have HN : Hid (qk l (k + 1) = A ++ [92, c]) := HN
        have e1 : ((c.toNat : Int) == 34) = decide (c = 34) := by rw [← ub_eq c 34]; rfl
        have e2 : ((c.toNat : Int) == 92) = decide (c = 92) := by rw [← ub_eq c 92]; rfl
        have hx2 : Hid ((decide (c = 34) || decide (c = 92)) = true) := by unfold Hid; simp; exact c1
        have hW := WriteByte_any w A 92 wr hBw (by omega)
        have hWn := fun wx hb => WriteByte_any w (A ++ [92]) c wx hb (by rw [List.length_append, List.length_singleton]; omega)
        clear c1
        generalize decide (c = 34) = d1 at *
        generalize decide (c = 92) = d2 at *
        generalize c.toNat = n at *
        replace hWn : Hid _ := hWn
        cases d1 <;> cases d2 <;> first
          | (exact absurd hx2.out (by decide))
          | (go_wp2_with (first
              | (go_at_call 42; refine hW2.mono ?_; rintro e' w4 ⟨rfl, hB4⟩; clear hW2)
              | (go_at_call 42; refine hW.mono ?_; rintro e' w3 ⟨rfl, hB3⟩; have hW2 := hWn.out w3 hB3; clear hW))
             go_roundw
             case rel => exact ⟨k + 1, _, by go_num, by have := HK.out; omega, hB4, by unfold Hid; rw [HN.out]; simp⟩
             case measure => have := HK.out; simp [intOf]; omega)
          | (go_wp2_with (first
              | (go_at_call 42; refine hW2.mono ?_; rintro e' w4 ⟨rfl, hB4⟩; clear hW2)
              | (go_at_call 42; refine hW.mono ?_; rintro e' w3 ⟨rfl, hB3⟩; have hW2 := hWn.out w3 hB3; clear hW)))
      · rw [if_neg c1] at HN
        have e1 := ub_no c 34 34 rfl (fun h => c1 (.inl h))
        have e2 := ub_no c 92 92 rfl (fun h => c1 (.inr h))
        by_cases c2 : c = 10
        · rw [if_pos c2] at HN
          have HN : Hid (qk l (k + 1) = A ++ [92, 110]) := HN
          have e3 := ub_is c 10 10 rfl c2
          have hW := WriteString_any w A [92, 110] wr hBw (by simp only [List.length_cons, List.length_nil]; omega)
          clear c1 c2
          generalize c.toNat = n at *
          go_wp2_with (go_at_call 43; refine hW.mono ?_; rintro e' w3 ⟨⟨vx, rfl⟩, hB3⟩)
          go_roundw
          case rel => exact ⟨k + 1, _, by go_num, by have := HK.out; omega, hB3, HN.out.symm⟩
          case measure => have := HK.out; simp [intOf]; omega
        · rw [if_neg c2] at HN
          have e3 := ub_no c 10 10 rfl c2
          by_cases c3 : c = 9
          · rw [if_pos c3] at HN
            have HN : Hid (qk l (k + 1) = A ++ [92, 116]) := HN
            have e4 := ub_is c 9 9 rfl c3
            have hW := WriteString_any w A [92, 116] wr hBw (by simp only [List.length_cons, List.length_nil]; omega)
            clear c1 c2 c3
            generalize c.toNat = n at *
            go_wp2_with (go_at_call 43; refine hW.mono ?_; rintro e' w3 ⟨⟨vx, rfl⟩, hB3⟩)
            go_roundw
            case rel => exact ⟨k + 1, _, by go_num, by have := HK.out; omega, hB3, HN.out.symm⟩
            case measure => have := HK.out; simp [intOf]; omega
          · rw [if_neg c3] at HN
            have e4 := ub_no c 9 9 rfl c3
            have hM := mayQuote_any c wr
            by_cases c4 : c.toNat < 32 ∨ c = 127
            · rw [if_pos c4] at HN
              have hm : mqB c = false := by unfold mqB; rw [decide_eq_true c4]; rfl
              rw [hm] at hM
              have HN : Hid (qk l (k + 1) = A ++ [92, 120, hxD (c.toNat / 16), hxD (c.toNat % 16)]) := HN
              have hW := WriteString_any w A [92, 120] wr hBw (by simp only [List.length_cons, List.length_nil]; omega)
              have hWn := fun x wx hb => WriteByte_any w (A ++ [92, 120]) x wx hb (by rw [List.length_append]; simp only [List.length_cons, List.length_nil]; omega)
              have hWm := fun x y wx hb => WriteByte_any w ((A ++ [92, 120]) ++ [x]) y wx hb (by rw [List.length_append, List.length_append]; simp only [List.length_cons, List.length_nil]; omega)
              have hcl : Hid (c.toNat < 256) := UInt8.toNat_lt c
              have hlt16 : c.toNat / 16 < 16 := by have := UInt8.toNat_lt c; omega
              clear c1 c2 c3 c4 hm
              replace hWn : Hid _ := hWn
              replace hWm : Hid _ := hWm
              go_wp2_with (first
                | (go_at_call 46; refine hM.mono ?_; rintro e' w0 ⟨rfl, hw0⟩; rw [hw0]; clear hw0)
                | (go_at_call 43; refine hW.mono ?_; rintro e' w3 ⟨⟨vx, rfl⟩, hB3⟩; clear hW)
                | (go_at_call 42; refine (hWm.out _ _ w4 hB4).mono ?_; rintro e' w5 ⟨rfl, hB5⟩; clear hB4)
                | (go_at_call 42; refine (hWn.out _ w3 hB3).mono ?_; rintro e' w4 ⟨rfl, hB4⟩; clear hB3))
              go_roundw
              case rel =>
                refine ⟨k + 1, _, by go_num, by have := HK.out; omega, hB5, ?_⟩
                unfold Hid
                have h2 := hcl.out
                rw [HN.out, hx_at (c.toNat / 16) (by omega), hx_at (c.toNat % 16) (by omega)]; simp
              case measure => have := HK.out; simp [intOf]; omega
            · rw [if_neg c4] at HN
              have HN : Hid (qk l (k + 1) = A ++ [c]) := HN
              have hm : mqB c = true := by unfold mqB; rw [decide_eq_false c4]; rfl
              rw [hm] at hM
              have hW := WriteByte_any w A c wr hBw (by omega)
              clear c1 c2 c3 c4 hm
              generalize c.toNat = n at *
              go_wp2_with (first
                | (go_at_call 46; refine hM.mono ?_; rintro e' w0 ⟨rfl, hw0⟩; rw [hw0]; clear hw0)
                | (go_at_call 42; refine hW.mono ?_; rintro e' w3 ⟨rfl, hB3⟩))
              go_roundw
              case rel => exact ⟨k + 1, _, by go_num, by have := HK.out; omega, hB3, HN.out.symm⟩
              case measure => have := HK.out; simp [intOf]; omega
    · have hltc : ¬ (k : Int) < (l.length : Int) := by omega
      obtain rfl : k = l.length := by omega
      have HQ : Hid (A ++ [34] = qt l) := by unfold Hid; rw [HA.out]; exact qk_all l
      have hW := WriteByte_any w A 34 wr hBw (by omega)
      clear HA hAl
      go_wp2_with (first
        | (go_at_call 42; refine hW.mono ?_; rintro e' w3 ⟨rfl, hB3⟩; have hS := String_any w _ w3 hB3)
        | (go_at_call 45; refine hS.mono ?_; rintro e' w4 ⟨rfl, k4⟩))
      go_ret
      exact ⟨by rw [← HQ.out]; rfl, k4⟩
end Go.Proofs.YtonfjmibnnioiaaDoor
