import Derived.Test.YtonfjmibnnioiaaDoorU3
set_option linter.unusedVariables false
set_option linter.unusedSimpArgs false
namespace Go.Proofs.YtonfjmibnnioiaaDoor
open Go.RowKit Go.Shelf
theorem drop_cons (l : List UInt8) (k : Nat) (h : k < l.length) : l.drop k = l.getD k 0 :: l.drop (k + 1) := by
  rw [List.drop_eq_getElem_cons h]; simp [List.getD, h]
/-- A text, a place, whether it is one. -/
def uqV (x : (List UInt8) × Nat × Bool) : Value := .tuple #[.string ⟨x.1.toArray⟩, .int .i64 (x.2.1 : Nat), .bool x.2.2]
set_option maxRecDepth 100000 in
set_option maxHeartbeats 4000000 in
theorem unquoted_any (c0 : UInt8) (r : List UInt8) (w : World) (hs : r.length ≤ 1099511627770) : Calls Tryd.prog 57 #[.string ⟨(c0 :: r).toArray⟩] w fun e w' => e = .returned (uqV (uq r [] 1)) ∧ Keep w w' := by
  obtain ⟨l, hl⟩ : ∃ l : List UInt8, l = c0 :: r := ⟨_, rfl⟩
  have hln : l.length = r.length + 1 := by rw [hl]; rfl
  have hsz := sz_mk l
  have hl1 : l.drop 1 = r := by rw [hl]; rfl
  rw [← hl]
  obtain ⟨R, hR⟩ : ∃ R, uq r [] 1 = R := ⟨_, rfl⟩
  rw [hR]
  have HR : Hid (uq (l.drop 1) [] 1 = R) := by unfold Hid; rw [hl1]; exact hR
  have hbl : l.length ≤ 1099511627771 := by omega
  have hb1 : 1 ≤ l.length := by omega
  clear hl hl1 hR hln hs
  obtain ⟨w1, hw1⟩ : ∃ w1, w.alloc (.cells #[.pointer none, .slice none 0 0] 61) = w1 := ⟨_, rfl⟩
  have hB := Bd.fresh w
  rw [hw1] at hB
  go_enter Tryd.func57, Tryd.ntmps57
  go_wp2_with (rw [hw1])
  go_loopw [6] (fun at' wr => ∃ (k : Nat) (acc : List UInt8), at' = .int .i64 k ∧ 1 ≤ k ∧ k ≤ l.length ∧ acc.length ≤ k ∧ Bd w acc wr ∧ Hid (uq (l.drop k) acc k = R)) (fun at' _ => l.length - (intOf at').toNat)
  case atStart => exact ⟨1, [], rfl, by omega, hb1, by simp, hB, HR⟩
  case round =>
    obtain ⟨k, acc, rfl, h1, hk, hac, hBw, H⟩ := hrel
    clear hB HR hw1
    by_cases hlt : k < l.length
    · have hx := run_ix l k hlt
      have hsl := run_from l k hk
      have hd := drop_cons l k hlt
      have hC := H.out
      rw [hd, uq_cons] at hC
      have hltc : decide ((k : Int) < (l.length : Int)) = true := decide_eq_true (by omega)
      have HK : Hid (k < l.length) := hlt
      by_cases c1 : l.getD k 0 = 34
      · rw [if_pos c1] at hC
        have e1 := ub_is _ 34 34 rfl c1
        have hS := String_any w acc wr hBw
        generalize (l.getD k 0).toNat = n at *
        clear hlt c1 H hd
        replace hC : Hid _ := hC
        go_wp2_with (go_at_call 45; refine hS.mono ?_; rintro e w0 ⟨rfl, k0⟩)
        go_ret3
        exact ⟨by rw [← hC.out]; rfl, k0⟩
      · rw [if_neg c1] at hC
        have e1 := ub_no _ 34 34 rfl c1
        by_cases c2 : l.getD k 0 = 92
        · rw [if_pos c2] at hC
          have e2 := ub_is _ 92 92 rfl c2
          have hE := escaped_any (l.drop (k + 1)) wr (by rw [List.length_drop]; omega)
          rw [← c2, ← hd] at hE
          have hle := esc_le (l.drop (k + 1))
          have hpos := esc_pos (l.drop (k + 1))
          rw [List.length_drop] at hle
          rw [← hd, List.drop_drop] at hC
          cases hx2 : (esc (l.drop (k + 1))).1 with
          | none =>
            rw [hx2] at hC
            have hv : escV (esc (l.drop (k + 1))) = .tuple #[.int .u8 0, .int .i64 ((esc (l.drop (k + 1))).2 : Nat), .bool false] := by unfold escV; rw [hx2]
            rw [hv] at hE
            have hK : Keep w wr := hBw.1
            generalize (esc (l.drop (k + 1))).2 = m at *
            generalize (l.getD k 0).toNat = n at *
            have hmb : m ≤ 1099511627772 := by omega
            have hkb : k ≤ 1099511627772 := by omega
            clear hlt c1 c2 H hd hx2 hv hle
            replace hC : Hid _ := hC
            go_wp2_with (first
              | rw [hsl]
              | (go_at_call 71; refine hE.mono ?_; rintro e w0 ⟨rfl, hw0⟩; rw [hw0]; clear hw0))
            go_ret3
            exact ⟨by rw [← hC.out]; rfl, hK⟩
          | some x =>
            rw [hx2] at hC
            have hv : escV (esc (l.drop (k + 1))) = .tuple #[.int .u8 (x.toNat : Nat), .int .i64 ((esc (l.drop (k + 1))).2 : Nat), .bool true] := by unfold escV; rw [hx2]
            rw [hv] at hE
            have hW := WriteByte_any w acc x wr hBw (by omega)
            generalize (esc (l.drop (k + 1))).2 = m at *
            generalize (l.getD k 0).toNat = n at *
            generalize x.toNat = nx at *
            have Hle : Hid (m ≤ l.length - (k + 1) + 1) := hle
            have hmb : m ≤ 1099511627772 := by omega
            have hkb : k ≤ 1099511627772 := by omega
            clear hlt c1 c2 H hd hx2 hv hle
            replace hC : Hid _ := hC
            go_wp2_with (first
              | rw [hsl]
              | (go_at_call 71; refine hE.mono ?_; rintro e w0 ⟨rfl, hw0⟩; rw [hw0]; clear hw0)
              | (go_at_call 42; refine hW.mono ?_; rintro e w2 ⟨rfl, hB2⟩))
            go_roundw
            case rel => exact ⟨k + m, acc ++ [x], by go_num, by omega, by have := HK.out; have := Hle.out; omega, by rw [List.length_append, List.length_singleton]; omega, hB2, hC.out⟩
            case measure => have := HK.out; simp [intOf]; omega
        · rw [if_neg c2] at hC
          have e2 := ub_no _ 92 92 rfl c2
          have hM := mayQuote_any (l.getD k 0) wr
          by_cases c3 : (l.getD k 0).toNat < 32 ∨ l.getD k 0 = 127
          · rw [if_pos c3] at hC
            have hm : mqB (l.getD k 0) = false := by unfold mqB; rw [decide_eq_true c3]; rfl
            rw [hm] at hM
            have hK : Keep w wr := hBw.1
            generalize (l.getD k 0).toNat = n at *
            clear hlt c1 c2 c3 H hd hm
            replace hC : Hid _ := hC
            go_wp2_with (go_at_call 46; refine hM.mono ?_; rintro e w0 ⟨rfl, hw0⟩; rw [hw0]; clear hw0)
            go_ret3
            exact ⟨by rw [← hC.out]; rfl, hK⟩
          · rw [if_neg c3] at hC
            have hm : mqB (l.getD k 0) = true := by unfold mqB; rw [decide_eq_false c3]; rfl
            rw [hm] at hM
            have hW := WriteByte_any w acc (l.getD k 0) wr hBw (by omega)
            have hC : Hid (uq (l.drop (k + 1)) (acc ++ [l.getD k 0]) (k + 1) = R) := hC
            obtain ⟨c, hc⟩ : ∃ c, l.getD k 0 = c := ⟨_, rfl⟩
            rw [hc] at hx hW hM e1 e2 hC
            generalize c.toNat = n at *
            clear hlt c1 c2 c3 H hd hm hc
            go_wp2_with (first
              | (go_at_call 46; refine hM.mono ?_; rintro e w0 ⟨rfl, hw0⟩; rw [hw0]; clear hw0)
              | (go_at_call 42; refine hW.mono ?_; rintro e w2 ⟨rfl, hB2⟩))
            go_roundw
            case rel => exact ⟨k + 1, acc ++ [c], by go_num, by omega, by have := HK.out; omega, by rw [List.length_append, List.length_singleton]; omega, hB2, hC.out⟩
            case measure => have := HK.out; simp [intOf]; omega
    · have hltc : ¬ (k : Int) < (l.length : Int) := by omega
      obtain rfl : k = l.length := by omega
      have hC := H.out
      rw [List.drop_length, uq_nil] at hC
      have hK : Keep w wr := hBw.1
      replace hC : Hid _ := hC
      clear H
      go_wp2_with fail
      go_ret3
      exact ⟨by rw [← hC.out]; rfl, hK⟩
end Go.Proofs.YtonfjmibnnioiaaDoor
