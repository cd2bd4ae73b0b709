import Derived.Test.YtjbiknnichfajaaS5
set_option linter.unusedVariables false
set_option linter.unusedSimpArgs false
namespace Go.Proofs.Ytjbiknnichfajaa
open Go.RowKit Go.Shelf
def fineB (V : List (List Nat)) (T : List (List Int)) : Bool := (List.range V.length).all (fun i => rgB (V.getD i []) (T.getD i []))
def rightB (V : List (List Nat)) (T : List (List Int)) : Bool := decide (V.length = T.length ∧ 1 ≤ V.length ∧ V.length ≤ 65536) && fineB V T
set_option maxRecDepth 100000 in
set_option maxHeartbeats 4000000 in
theorem Right_any (a a2 : Option Addr) (c c2 : Nat) (V : List (List Nat)) (T : List (List Int)) (w : World) (h : Bn w a a2 V T) :
    Calls Try.prog 8 #[BV a V.length c a2 T.length c2] w fun e w' => e = .returned (.bool (rightB V T)) ∧ Keep w w' := by
  obtain ⟨w1, hw1, k1, t1, s1⟩ := boxed w #[.slice a V.length c, .slice a2 T.length c2] 25
  obtain ⟨c0, c1, f0, f1⟩ := cells2 t1
  have hnv := h.nv
  have hnt := h.nt
  have hB := h.keep k1
  clear h
  by_cases g1 : V.length = T.length
  · have G1 : Hid (V.length = T.length) := g1
    by_cases g2 : V.length < 1
    · have HR : Hid (rightB V T = false) := by show _ = _; unfold rightB; rw [decide_eq_false (fun h => by omega)]; rfl
      generalize rightB V T = R at *
      have e1 : ((V.length : Int) != (T.length : Int)) = false := by simp; omega
      clear g1
      have e2 : decide ((V.length : Int) < 1) = true := by rw [decide_eq_true_eq]; omega
      go_enter Try.func8, Try.ntmps8
      go_wp2_with (rw [hw1])
      go_ret
      exact ⟨ret_bool HR.out.symm, k1⟩
    · by_cases g3 : 65536 < V.length
      · have HR : Hid (rightB V T = false) := by show _ = _; unfold rightB; rw [decide_eq_false (fun h => by omega)]; rfl
        generalize rightB V T = R at *
        have e1 : ((V.length : Int) != (T.length : Int)) = false := by simp; omega
        clear g1
        have e2 : decide ((V.length : Int) < 1) = false := by rw [decide_eq_false_iff_not]; omega
        have e3 : decide ((65536 : Int) < (V.length : Int)) = true := by rw [decide_eq_true_eq]; omega
        go_enter Try.func8, Try.ntmps8
        go_wp2_with (rw [hw1])
        go_ret
        exact ⟨ret_bool HR.out.symm, k1⟩
      · have HR : Hid (rightB V T = fineB V T) := by show _ = _; unfold rightB; rw [decide_eq_true (by omega)]; rfl
        have e1 : ((V.length : Int) != (T.length : Int)) = false := by simp; omega
        clear g1
        have e2 : decide ((V.length : Int) < 1) = false := by rw [decide_eq_false_iff_not]; omega
        have e3 : decide ((65536 : Int) < (V.length : Int)) = false := by rw [decide_eq_false_iff_not]; omega
        generalize rightB V T = R at *
        have hz : w.heap.size < w1.heap.size := by omega
        go_enter Try.func8, Try.ntmps8
        go_wp2_with (rw [hw1])
        go_loopw [26] (fun i wr => ∃ k : Nat, k ≤ V.length ∧ i = .int .i64 k ∧ Keep w1 wr ∧ Hid (∀ j, j < k → rgB (V.getD j []) (T.getD j []) = true)) (fun i _ => V.length - (intOf i).toNat)
        case atStart => exact ⟨0, by omega, rfl, Keep.refl _, fun j hj => by omega⟩
        case round =>
          obtain ⟨k, hk, rfl, kw, HO⟩ := hrel
          by_cases hkl : k < V.length
          · have hkc : (k : Int) < (V.length : Int) := by omega
            have hS := scaleOf_any a a2 c c2 V T k wr (hB.keep kw) hkl (by have := G1.out; omega)
            have y0 := kw.cell c0
            have y1 := kw.cell c1
            have hG := fun x cx y cy wz (hs : Sc wz x y (V.getD k []) (T.getD k [])) => isRight_any x y cx cy (V.getD k []) (T.getD k []) wz hs
            have HK : Hid (∀ b, rgB (V.getD k []) (T.getD k []) = b → if b = true then ∀ j, j < k + 1 → rgB (V.getD j []) (T.getD j []) = true else fineB V T = false) := by
              intro b hb
              cases b
              · simp only [Bool.false_eq_true, if_false]; exact all_no hkl hb
              · simp only [if_true]; intro j hj
                by_cases e : j = k
                · rw [e]; exact hb
                · exact HO.out j (by omega)
            have hzr : w.heap.size < wr.heap.size := by have := kw.le; omega
            generalize V.getD k [] = l at *
            generalize T.getD k [] = t at *
            obtain ⟨rb, hrb⟩ : ∃ rb, rgB l t = rb := ⟨_, rfl⟩
            have HK2 := HK.out rb hrb
            rw [hrb] at hG
            clear HK hrb
            cases rb
            · simp only [Bool.false_eq_true, if_false] at HK2
              replace HK2 : Hid _ := HK2
              go_wp2_with (first
                | (go_at_call 13; refine hS.mono ?_; rintro e w3 ⟨x, cx, y, cy, rfl, hs, k3⟩)
                | (go_at_call 22; refine (hG x cx y cy _ (hs.keep k3)).mono ?_; rintro e w4 ⟨rfl, k4⟩))
              go_ret
              exact ⟨ret_bool (by rw [HR.out, HK2.out]), k1.trans (kw.trans (k3.trans k4))⟩
            · simp only [if_true] at HK2
              replace HK2 : Hid _ := HK2
              go_wp2_with (first
                | (go_at_call 13; refine hS.mono ?_; rintro e w3 ⟨x, cx, y, cy, rfl, hs, k3⟩)
                | (go_at_call 22; refine (hG x cx y cy _ (hs.keep k3)).mono ?_; rintro e w4 ⟨rfl, k4⟩))
              go_roundw
              case rel => exact ⟨k + 1, by omega, by go_num, kw.trans (k3.trans k4), HK2⟩
              case measure => simp [intOf]; omega
          · have hkc : ¬ (k : Int) < (V.length : Int) := by omega
            have HT : Hid (fineB V T = true) := all_yes (fun i hi => HO.out i (by omega))
            go_wp2_with fail
            go_ret
            exact ⟨ret_bool (by rw [HR.out, HT.out]), k1.trans kw⟩
  · have HR : Hid (rightB V T = false) := by show _ = _; unfold rightB; rw [decide_eq_false (fun h => g1 h.1)]; rfl
    generalize rightB V T = R at *
    have e1 : ((V.length : Int) != (T.length : Int)) = true := by simp; omega
    go_enter Try.func8, Try.ntmps8
    go_wp2_with (rw [hw1])
    go_ret
    exact ⟨ret_bool HR.out.symm, k1⟩
end Go.Proofs.Ytjbiknnichfajaa
