import Derived.Test.YteonapeoeckhfaaDoorUM
import Derived.Test.YteonapeoeckhfaaDoorQ2
set_option linter.unusedVariables false
set_option linter.unusedSimpArgs false
namespace Go.Proofs.YteonapeoeckhfaaDoor
open Go.RowKit Go.Shelf
set_option maxRecDepth 100000 in
theorem and31 : ∀ X : Fin 256, bits .and .i64 ((X.val : Nat) : Int) 31 = ((X.val % 32 : Nat) : Int) := by decide
set_option maxRecDepth 100000 in
theorem and15i : ∀ X : Fin 256, bits .and .i64 ((X.val : Nat) : Int) 15 = ((X.val % 16 : Nat) : Int) := by decide
set_option maxRecDepth 100000 in
theorem and7i : ∀ X : Fin 256, bits .and .i64 ((X.val : Nat) : Int) 7 = ((X.val % 8 : Nat) : Int) := by decide
set_option maxRecDepth 100000 in
theorem and192 : ∀ X : Fin 256, bits .and .u8 ((X.val : Nat) : Int) 192 = ((X.val / 64 * 64 : Nat) : Int) := by decide
set_option maxRecDepth 100000 in
theorem and63 : ∀ X : Fin 256, bits .and .u8 ((X.val : Nat) : Int) 63 = ((X.val % 64 : Nat) : Int) := by decide
theorem or64 (V x : Nat) (hV : V < 1073741824) (hx : x < 64) : bits .or .i64 ((V : Int) * 64) (x : Int) = ((V * 64 + x : Nat) : Int) := by
  have e : ((V : Int) * 64) = ((V * 64 : Nat) : Int) := by omega
  rw [e]
  show IntKind.i64.wrap ((BitVec.ofInt 64 ((V * 64 : Nat) : Int) ||| BitVec.ofInt 64 (x : Int)).toNat : Int) = _
  rw [BitVec.toNat_or, ofInt_u64 _ (by omega), ofInt_u64 x (by omega)]
  have h := Nat.two_pow_add_eq_or_of_lt (i := 6) (b := x) (by omega) V
  have h6 : (2 : Nat) ^ 6 = 64 := by decide
  rw [h6, Nat.mul_comm] at h
  rw [← h, IntWalk.i64_left]
  exact IntWalk.wrap64_in _ (by omega)
theorem or64' (V b : Nat) (hV : V < 524288) : bits .or .i64 ((V : Int) * 64) ((b : Int) % 64) = ((V * 64 + b % 64 : Nat) : Int) ∧ wrap64 ((V : Int) * 64) = (V : Int) * 64 := ⟨by
  have := or64 V (b % 64) (by omega) (by omega)
  rw [show ((b % 64 : Nat) : Int) = (b : Int) % 64 by omega] at this
  exact this, IntWalk.wrap64_in _ (by omega)⟩
theorem w63 (b : Nat) : wrap64 ((b % 64 : Nat) : Int) = (b : Int) % 64 := by
  rw [show ((b % 64 : Nat) : Int) = (b : Int) % 64 by omega]
  exact IntWalk.wrap64_in _ (by omega)
theorem pow64 {V i : Nat} (h : V < 32 * 64 ^ i) (h2 : i ≤ 2) : V < 524288 := by
  have h3 : 64 ^ i ≤ 64 ^ 2 := Nat.pow_le_pow_right (by omega) h2
  have h4 : (64 : Nat) ^ 2 = 4096 := by decide
  omega
theorem pow64s {V i y : Nat} (h : V < 32 * 64 ^ i) : V * 64 + y % 64 < 32 * 64 ^ (i + 1) := by
  rw [Nat.pow_succ]
  generalize 64 ^ i = P at h ⊢
  omega
theorem n128 {x : Nat} (h : x / 64 = 2) : (((x / 64 * 64 : Nat) : Int) != 128) = false := by rw [h]; decide
theorem n128' {x : Nat} (h : ¬ x / 64 = 2) : (((x / 64 * 64 : Nat) : Int) != 128) = true := by rw [bne_iff_ne]; omega
set_option maxRecDepth 100000 in
set_option maxHeartbeats 4000000 in
theorem Char_any (l : List UInt8) (ta : Option Addr) (cp : Nat) (w : World) (hrd : RdB w ta l) (hl : l.length ≤ 140737488355328) :
    Calls Tryd.prog 66 #[.slice ta l.length cp] w fun e w' => e = .returned (.int .i64 (chr l : Nat)) ∧ w' = w := by
  by_cases hne : l = []
  · subst hne
    have h0 : chr [] = 0 := rfl
    rw [h0]
    simp only [List.length_nil]
    go_enter Tryd.func66, Tryd.ntmps66
    go_wp2_with fail
    go_ret
    exact ⟨rfl, rfl⟩
  · have hp := List.length_pos_iff.2 hne
    obtain ⟨tb, o, rfl, hc0⟩ := hrd 0 hp
    have hb0 := bt_lt l 0
    have hc : w.cell? ⟨tb, o, none⟩ = some (.int .u8 (bt l 0 : Nat)) := hc0
    obtain ⟨n, hn⟩ : ∃ n, l.length = n := ⟨_, rfl⟩
    have HN : Hid (l.length = n) := hn
    rw [hn] at hl ⊢
    have hn0 : ((n : Int) == 0) = false := by rw [beq_eq_false_iff_ne]; omega
    have hnz : ¬ n = 0 := by omega
    have hw : wrap64 (bt l 0 : Int) = (bt l 0 : Int) := IntWalk.wrap64_in _ (by omega)
    have hlo := fun q => chr_lo hne q
    have hbad := fun q => chr_bad hne q
    have hsh := fun q1 q2 => chr_short hne q1 q2
    have hva := fun q1 q2 q3 => chr_val hne q1 q2 q3
    obtain ⟨C, hC⟩ : ∃ C, chr l = C := ⟨_, rfl⟩
    rw [hC] at hlo hbad hsh hva ⊢
    have hix : (0 : Int) < (n : Int) := by omega
    clear hC hc0 hn
    by_cases h1 : bt l 0 < 128
    · have e := hlo h1
      subst e
      generalize bt l 0 = x at h1 hc hw
      have d1 : (x : Int) < 128 := by omega
      clear hlo hbad hsh hva hb0
      go_enter Tryd.func66, Tryd.ntmps66
      go_wp2_with fail
      go_ret
      exact ⟨rfl, rfl⟩
    · by_cases h2 : 128 ≤ bt l 0 ∧ bt l 0 < 192 ∨ 248 ≤ bt l 0
      · have e := hbad h2
        subst e
        generalize bt l 0 = x at h1 h2 hc hw
        have d1 : ¬ (x : Int) < 128 := by omega
        have hD : (¬ (x : Int) ≥ 192) ∨ ((x : Int) ≥ 192 ∧ ¬ (x : Int) < 224 ∧ (x : Int) ≥ 224 ∧ ¬ (x : Int) < 240 ∧ (x : Int) ≥ 240 ∧ ¬ (x : Int) < 248) := by omega
        clear hlo hbad hsh hva hb0 h1
        rcases hD with d2 | ⟨d2, d3, d4, d5, d6, d7⟩
        · have d4 : ¬ (x : Int) ≥ 224 := by omega
          have d6 : ¬ (x : Int) ≥ 240 := by omega
          clear h2
          go_enter Tryd.func66, Tryd.ntmps66
          go_wp2_with fail
          go_ret
          exact ⟨rfl, rfl⟩
        · clear h2
          go_enter Tryd.func66, Tryd.ntmps66
          go_wp2_with fail
          go_ret
          exact ⟨rfl, rfl⟩
      · have hr : 192 ≤ bt l 0 ∧ bt l 0 < 248 := by omega
        have hsh := hsh hr
        have hva := hva hr
        have a1 := and31 ⟨bt l 0, hb0⟩
        have a2 := and15i ⟨bt l 0, hb0⟩
        have a3 := and7i ⟨bt l 0, hb0⟩
        simp only at a1 a2 a3
        have hN2 : 2 ≤ cN (bt l 0) ∧ cN (bt l 0) ≤ 4 := by unfold cN; split <;> (try split) <;> omega
        have hvv : vv l 0 = cV (bt l 0) := rfl
        clear hlo hbad h1 h2
        go_enter Tryd.func66, Tryd.ntmps66
        go_upto_block 0 with fail
        go_cut [3, 4, 5] from 3 to 44 (fun s3 s4 s5 wx => s3 = .int .i64 (cN (bt l 0) : Nat) ∧ s4 = .int .i64 (vv l 0 : Nat) ∧ s5 = .int .i64 (cL (bt l 0) : Nat) ∧ wx = w)
        case first =>
          have HVV : Hid (vv l 0 = cV (bt l 0)) := hvv
          have z1 : ¬ (bt l 0 : Int) < 128 := by omega
          have z2 : (bt l 0 : Int) ≥ 192 := by omega
          clear hsh hva hvv
          by_cases c1 : bt l 0 < 224
          · have e1 : cN (bt l 0) = 2 := if_pos c1
            have e2 : cV (bt l 0) = bt l 0 % 32 := if_pos c1
            have e3 : cL (bt l 0) = 128 := if_pos c1
            have E1 : Hid _ := e1
            have E2 : Hid _ := e2
            have E3 : Hid _ := e3
            have z3 : (bt l 0 : Int) < 224 := by omega
            clear hN2 e1 e2 e3 c1 hr
            go_wp2_with fail
            go_meet
            exact ⟨by rw [E1.out]; rfl, by rw [HVV.out, E2.out] <;> first | rfl | rw [a1], by rw [E3.out]; rfl, rfl⟩
          · have z3 : ¬ (bt l 0 : Int) < 224 := by omega
            have z4 : (bt l 0 : Int) ≥ 224 := by omega
            by_cases c2 : bt l 0 < 240
            · have e1 : cN (bt l 0) = 3 := by unfold cN; rw [if_neg c1, if_pos c2]
              have e2 : cV (bt l 0) = bt l 0 % 16 := by unfold cV; rw [if_neg c1, if_pos c2]
              have e3 : cL (bt l 0) = 2048 := by unfold cL; rw [if_neg c1, if_pos c2]
              have E1 : Hid _ := e1
              have E2 : Hid _ := e2
              have E3 : Hid _ := e3
              have z5 : (bt l 0 : Int) < 240 := by omega
              clear hN2 e1 e2 e3 c1 c2 hr
              go_wp2_with fail
              go_meet
              exact ⟨by rw [E1.out]; rfl, by rw [HVV.out, E2.out] <;> first | rfl | rw [a2], by rw [E3.out]; rfl, rfl⟩
            · have e1 : cN (bt l 0) = 4 := by unfold cN; rw [if_neg c1, if_neg c2]
              have e2 : cV (bt l 0) = bt l 0 % 8 := by unfold cV; rw [if_neg c1, if_neg c2]
              have e3 : cL (bt l 0) = 65536 := by unfold cL; rw [if_neg c1, if_neg c2]
              have E1 : Hid _ := e1
              have E2 : Hid _ := e2
              have E3 : Hid _ := e3
              have z5 : ¬ (bt l 0 : Int) < 240 := by omega
              have z6 : (bt l 0 : Int) ≥ 240 := by omega
              have z7 : (bt l 0 : Int) < 248 := by omega
              clear hN2 e1 e2 e3 c1 c2 hr
              go_wp2_with fail
              go_meet
              exact ⟨by rw [E1.out]; rfl, by rw [HVV.out, E2.out] <;> first | rfl | rw [a3], by rw [E3.out]; rfl, rfl⟩
        case rest =>
          obtain ⟨rfl, rfl, rfl, rfl⟩ := hcut
          generalize cL (bt l 0) = Lst at *
          generalize cN (bt l 0) = N at *
          have hv0 : vv l 0 < 32 := by rw [hvv]; unfold cV; split <;> (try split) <;> omega
          clear a1 a2 a3 hvv hw hr hc hix
          by_cases hs : n < N
          · have e := hsh (.inl (by rw [HN.out]; exact hs))
            subst e
            have hs2 : (n : Int) < (N : Int) := by omega
            clear hsh hva
            go_wp2_with fail
            go_ret
            exact ⟨rfl, rfl⟩
          · have hs2 : ¬ (n : Int) < (N : Int) := by omega
            have HNn : Hid (N ≤ n) := by show _ ≤ _; omega
            go_wp2_with fail
            clear hs hs2 hn0 hnz
            go_loopg [4, 7] (N - 1) (fun gg s4 s7 wx => ∃ i q : Nat, Hid (q = i + 1) ∧ q ≤ N ∧ gg = N - q ∧ s7 = .int .i64 q ∧ s4 = .int .i64 (vv l i : Nat) ∧ Hid (cont l i) ∧ Hid (vv l i < 32 * 64 ^ i) ∧ wx = wc)
            case atStart => exact ⟨0, 1, rfl, by omega, rfl, rfl, rfl, fun j hj => by omega, by show _ < _; omega, rfl⟩
            case round =>
              obtain ⟨i, q, hq, hqN, rfl, rfl, rfl, hct, hvl, rfl⟩ := hrel
              by_cases hlt : q < N
              · have hqz : (q : Int) < (N : Int) := by omega
                have hqn : q < n := by have := HNn.out; omega
                have hqb : (0 : Int) ≤ (q : Int) ∧ (q : Int) < (n : Int) := by omega
                obtain ⟨tb2, o2, e2, hcq0⟩ := hrd q (by rw [HN.out]; exact hqn)
                simp only [Option.some.injEq, Addr.mk.injEq, and_true] at e2
                obtain ⟨rfl, rfl⟩ := e2
                have hcq : wr.cell? ⟨tb, o + q, none⟩ = some (.int .u8 (bt l q : Nat)) := hcq0
                have hbq := bt_lt l q
                have m1 := and192 ⟨bt l q, hbq⟩
                have m2 := and63 ⟨bt l q, hbq⟩
                simp only at m1 m2
                have hqi : Hid (bt l (i + 1) = bt l q) := by show _ = _; rw [hq.out]
                have hvs : Hid (vv l (i + 1) = vv l i * 64 + bt l q % 64) := by show vv l i * 64 + bt l (i + 1) % 64 = _; rw [hqi.out]
                obtain ⟨hor, hwv⟩ := or64' (vv l i) (bt l q) (pow64 hvl.out (by have := hq.out; omega))
                have hw63 := w63 (bt l q)
                clear hcq0
                generalize bt l q = x at *
                by_cases hco : x / 64 = 2
                · have hne1 : (bits .and .u8 (x : Int) 192 != 128) = false := by rw [m1]; exact n128 hco
                  have hct2 : Hid (cont l (i + 1)) := by
                    intro j hj
                    by_cases e : j = i
                    · subst e; rw [hqi.out]; exact hco
                    · exact hct.out j (by omega)
                  have hvl2 : Hid (vv l (i + 1) < 32 * 64 ^ (i + 1)) := by
                    show _ < _
                    rw [hvs.out]
                    exact pow64s hvl.out
                  have hmw : wrap64 (bits .and .u8 (x : Int) 63) = (x : Int) % 64 := by rw [m2]; exact hw63
                  generalize hVe : vv l i = V at *
                  clear hco hVe m1 m2 hw63
                  go_wp2_with fail
                  go_roundg (N - (q + 1))
                  case measure => omega
                  case rel => exact ⟨i + 1, q + 1, by show _ = _; rw [hq.out], by omega, rfl, by go_num, by rw [hvs.out]; rfl, hct2, hvl2, rfl⟩
                · have hne1 : (bits .and .u8 (x : Int) 192 != 128) = true := by
                    rw [m1]
                    exact n128' hco
                  have e := hsh (.inr ⟨i, by have := hq.out; omega, by rw [hqi.out]; exact hco⟩)
                  subst e
                  clear hsh hva m1 m2 hco
                  go_wp2_with fail
                  go_ret
                  exact ⟨rfl, rfl⟩
              · have hqz : ¬ (q : Int) < (N : Int) := by omega
                have hqe : i = N - 1 := by have := hq.out; omega
                have e := hva (by rw [HN.out]; exact HNn.out) (by rw [← hqe]; exact hct.out)
                rw [← hqe] at e
                clear hsh hva hqe hN2
                generalize vv l i = V at *
                by_cases g1 : V < Lst
                · rw [if_pos (.inl g1)] at e
                  subst e
                  have g1z : (V : Int) < (Lst : Int) := by omega
                  go_wp2_with fail
                  go_ret
                  exact ⟨rfl, rfl⟩
                · have g1z : ¬ (V : Int) < (Lst : Int) := by omega
                  by_cases g2 : 1114111 < V
                  · rw [if_pos (.inr (.inl g2))] at e
                    subst e
                    have g2z : (V : Int) > 1114111 := by omega
                    go_wp2_with fail
                    go_ret
                    exact ⟨rfl, rfl⟩
                  · have g2z : ¬ (V : Int) > 1114111 := by omega
                    by_cases g3 : 55296 ≤ V
                    · have g3z : (V : Int) ≥ 55296 := by omega
                      by_cases g4 : V < 57344
                      · rw [if_pos (.inr (.inr ⟨g3, g4⟩))] at e
                        subst e
                        have g4z : (V : Int) < 57344 := by omega
                        go_wp2_with fail
                        go_ret
                        exact ⟨rfl, rfl⟩
                      · rw [if_neg (by omega)] at e
                        subst e
                        have g4z : ¬ (V : Int) < 57344 := by omega
                        go_wp2_with fail
                        go_ret
                        exact ⟨rfl, rfl⟩
                    · rw [if_neg (by omega)] at e
                      subst e
                      have g3z : ¬ (V : Int) ≥ 55296 := by omega
                      go_wp2_with fail
                      go_ret
                      exact ⟨rfl, rfl⟩
end Go.Proofs.YteonapeoeckhfaaDoor
