import Derived.Test.YtonfjmibnnioiaaDoorJ2
import Derived.Test.YtonfjmibnnioiaaDoorW3
set_option linter.unusedVariables false
set_option linter.unusedSimpArgs false
namespace Go.Proofs.YtonfjmibnnioiaaDoor
open Go.RowKit Go.Shelf
/-- Fields behind one another, the sign ahead of each but the first; none where a field has a line's end. -/
def jr (y : UInt8) : Bool → List (List UInt8) → List UInt8 → Option (List UInt8)
  | _, [], acc => some acc
  | first, f :: L, acc => if hasNL f = true then none else jr y false L (acc ++ (if first = true then [] else [y]) ++ ft f y)
/-- What a run comes to. -/
def jx : Option (List UInt8) → List UInt8 × Nat
  | none => ([], 30)
  | some t => (t, 0)
/-- Join's answer. -/
def jnR (L : List (List UInt8)) (y : UInt8) : List UInt8 × Nat :=
  if mcB y = false then ([], 2) else if L = [] then ([], 3) else jx (jr y true L [])
/-- A bound for its length. -/
def tl (L : List (List UInt8)) : Nat := (L.map fun f => 2 * f.length + 3).sum
theorem tl_cons (f : List UInt8) (L : List (List UInt8)) : tl (f :: L) = 2 * f.length + 3 + tl L := by simp [tl]
theorem jr_len (y : UInt8) : ∀ (first : Bool) (L : List (List UInt8)) (acc t : List UInt8), jr y first L acc = some t → t.length ≤ acc.length + tl L
  | _, [], acc, t, h => by unfold jr at h; cases h; omega
  | first, f :: L, acc, t, h => by
    unfold jr at h
    split at h
    · cases h
    · have := jr_len y false L _ t h
      have h2 := ft_len f y
      rw [tl_cons]
      rw [List.length_append, List.length_append] at this
      have h3 : (if first = true then [] else [y] : List UInt8).length ≤ 1 := by split <;> simp
      omega
theorem mem_tl (L : List (List UInt8)) (k : Nat) (h : k < L.length) : 2 * (L.getD k []).length + 3 ≤ tl L := by
  induction L generalizing k with
  | nil => simp at h
  | cons f L ih =>
    rw [tl_cons]
    cases k with
    | zero => simp
    | succ k =>
      have := ih k (by simpa using h)
      simp only [List.getD_cons_succ]
      omega
theorem dropc (L : List (List UInt8)) (k : Nat) (h : k < L.length) : L.drop k = L.getD k [] :: L.drop (k + 1) := by
  rw [List.drop_eq_getElem_cons h]; simp [List.getD, h]
theorem len_tl (L : List (List UInt8)) : L.length ≤ tl L := by
  induction L with
  | nil => simp
  | cons f L ih => rw [tl_cons, List.length_cons]; omega
set_option maxRecDepth 100000 in
set_option maxHeartbeats 2000000 in
theorem Join_any (a : Option Addr) (c : Nat) (L : List (List UInt8)) (y : UInt8) (w : World) (hm : Ml w) (hr : RdG w a (SvL L)) (hL : tl L ≤ 4294967000) : Calls Tryd.prog 19 #[.slice a L.length c, .int .u8 (y.toNat : Nat)] w fun e w' => e = .returned (.tuple #[.string ⟨(jnR L y).1.toArray⟩, .int .i64 ((jnR L y).2 : Nat)]) ∧ Keep w w' := by
  have hM := mayCut_any y w
  obtain ⟨R, hR⟩ : ∃ R, jnR L y = R := ⟨_, rfl⟩
  rw [hR]
  unfold jnR at hR
  obtain ⟨n, hn⟩ : ∃ n, L.length = n := ⟨_, rfl⟩
  have hnl : n ≤ 4294967000 := by have := len_tl L; omega
  by_cases h1 : mcB y = false
  · rw [if_pos h1] at hR
    rw [h1] at hM
    subst hR
    rw [hn]
    clear hr
    go_enter Tryd.func19, Tryd.ntmps19
    go_wp2_with (go_at_call 39; refine hM.mono ?_; rintro e w1 ⟨rfl, rfl⟩)
    go_ret2
    exact ⟨rfl, Keep.refl _⟩
  · rw [if_neg h1] at hR
    have h1' : mcB y = true := by simpa using h1
    rw [h1'] at hM
    by_cases h2 : L = []
    · rw [if_pos h2] at hR
      subst hR
      subst h2
      have hn0 : n = 0 := by rw [← hn]; rfl
      subst hn0
      clear hr
      go_enter Tryd.func19, Tryd.ntmps19
      go_wp2_with (go_at_call 39; refine hM.mono ?_; rintro e w1 ⟨rfl, rfl⟩)
      go_ret2
      exact ⟨rfl, Keep.refl _⟩
    · rw [if_neg h2] at hR
      have hn0 : ((n : Int) == 0) = false := by
        have : L.length ≠ 0 := fun h => h2 (List.length_eq_zero_iff.1 h)
        rw [beq_eq_false_iff_ne]; omega
      obtain ⟨w1, hw1⟩ : ∃ w1, w.alloc (.cells #[.pointer none, .slice none 0 0] 61) = w1 := ⟨_, rfl⟩
      have hB := Bd.fresh w
      rw [hw1] at hB
      have HR : Hid (jx (jr y (decide (0 = 0)) (L.drop 0) []) = R) := by unfold Hid; rw [List.drop_zero]; exact hR
      rw [hn]
      clear hR h1 h1' h2
      replace hr : Hid _ := hr
      replace hL : Hid _ := hL
      replace hm : Hid _ := hm
      replace hn : Hid _ := hn
      go_enter Tryd.func19, Tryd.ntmps19
      go_wp2_with (first | rw [hw1] | (go_at_call 39; refine hM.mono ?_; rintro e w0 ⟨rfl, hw0⟩; rw [hw0]; clear hw0))
      go_loopw [17] (fun iv wr => ∃ (k : Nat) (A : List UInt8), iv = .int .i64 k ∧ k ≤ n ∧ Bd w A wr ∧ Hid (A.length + tl (L.drop k) ≤ tl L) ∧ Hid (jx (jr y (decide (k = 0)) (L.drop k) A) = R)) (fun iv _ => n - (intOf iv).toNat)
      case atStart => exact ⟨0, [], rfl, by omega, hB, by unfold Hid; simp, HR⟩
      case round =>
        obtain ⟨k, A, rfl, hk, hBw, HA, H⟩ := hrel
        clear HR hB hw1
        by_cases hlt : k < n
        · have hkl : k < L.length := by rw [hn.out]; exact hlt
          have hltc : decide ((k : Int) < (n : Int)) = true := decide_eq_true (by omega)
          have hd := dropc L k hkl
          have x0 : (SvL L)[k]? = some (.string ⟨(L.getD k []).toArray⟩) := by simp [SvL, List.getD, hkl]
          obtain ⟨b, o, rfl, c0⟩ := RdG.keep hr.out hBw.1 _ _ x0
          have hfl := mem_tl L k hkl
          have H2 := H.out
          have HA2 := HA.out
          rw [hd] at H2 HA2
          rw [tl_cons] at HA2
          unfold jr at H2
          have hLo := hL.out
          obtain ⟨f, hf⟩ : ∃ f, L.getD k [] = f := ⟨_, rfl⟩
          rw [hf] at H2 HA2 hfl c0
          have hfs : f.length ≤ 4294967000 := by omega
          have hAb : A.length + 2 * f.length + 3 ≤ 4294967000 := by omega
          have hft := ft_len f y
          have hC := ContainsAny_any f wr hfs
          have HK : Hid (k < n) := hlt
          clear x0 hd H HA hf hkl hfl hLo hlt hr hL
          by_cases hN : hasNL f = true
          · rw [if_pos hN] at H2
            rw [hN] at hC
            replace H2 : Hid _ := H2
            have kw : Hid _ := hBw.1
            clear hN hBw HA2
            go_wp2_with (go_at_call 41; refine hC.mono ?_; rintro e w2 ⟨rfl, k2⟩)
            go_ret2
            exact ⟨by rw [← H2.out]; rfl, Keep.trans kw.out k2⟩
          · rw [if_neg hN] at H2
            have hN' : hasNL f = false := by simpa using hN
            rw [hN'] at hC
            replace H2 : Hid _ := H2
            replace HA2 : Hid _ := HA2
            clear hN hN'
            by_cases h0 : k = 0
            · subst h0
              rw [Nat.add_zero] at c0
              go_wp2_with (first
                | (go_at_call 41; refine hC.mono ?_; rintro e w2 ⟨rfl, k2⟩; have hB2 := Bd.keep hBw k2; have hF := fieldText_any f y w2 (Ml.keep hm.out hB2.1) hfs; clear hC)
                | (go_at_call 44; refine hF.mono ?_; rintro e w3 ⟨rfl, k3⟩; have hB3 := Bd.keep hB2 k3; have hW := WriteString_any w A (ft f y) w3 hB3 (by omega); clear hF)
                | (go_at_call 43; refine hW.mono ?_; rintro e w4 ⟨⟨v4, rfl⟩, hB4⟩))
              go_roundw
              case rel => exact ⟨1, _, by go_num, by have := HK.out; omega, hB4, by unfold Hid; have := HA2.out; rw [Nat.zero_add] at this; rw [List.length_append]; omega, by unfold Hid; have := H2.out; simpa using this⟩
              case measure => have := HK.out; simp [intOf]; omega
            · have hk0 : decide (0 < k) = true := decide_eq_true (by omega)
              have hk1 : 0 < k := by omega
              have H3 : Hid (k ≠ 0) := h0
              have hWb := fun wx hb => WriteByte_any w A y wx hb (by omega)
              clear h0
              go_wp2_with (first
                | (go_at_call 41; refine hC.mono ?_; rintro e w2 ⟨rfl, k2⟩; have hB2 := Bd.keep hBw k2; clear hC)
                | (go_at_call 42; refine (hWb _ hB2).mono ?_; rintro e w3 ⟨rfl, hB3⟩; have hF := fieldText_any f y w3 (Ml.keep hm.out hB3.1) hfs; clear hWb)
                | (go_at_call 44; refine hF.mono ?_; rintro e w4 ⟨rfl, k4⟩; have hB4 := Bd.keep hB3 k4; have hW := WriteString_any w (A ++ [y]) (ft f y) w4 hB4 (by rw [List.length_append, List.length_singleton]; omega); clear hF)
                | (go_at_call 43; refine hW.mono ?_; rintro e w5 ⟨⟨v5, rfl⟩, hB5⟩))
              go_roundw
              case rel => exact ⟨k + 1, _, by go_num, by have := HK.out; omega, hB5, by unfold Hid; have := HA2.out; rw [List.length_append, List.length_append, List.length_singleton]; omega, by unfold Hid; have := H2.out; have h3 := H3.out; simpa [h3] using this⟩
              case measure => have := HK.out; simp [intOf]; omega
        · have hltc : ¬ (k : Int) < (n : Int) := by omega
          obtain rfl : k = n := by omega
          have H2 := H.out
          rw [List.drop_eq_nil_of_le (by rw [hn.out]; omega)] at H2
          have H2 : Hid ((A, 0) = R) := H2
          have hS := String_any w A wr hBw
          clear H HA
          go_wp2_with (go_at_call 45; refine hS.mono ?_; rintro e w2 ⟨rfl, k2⟩)
          go_ret2
          exact ⟨by rw [← H2.out]; rfl, k2⟩
end Go.Proofs.YtonfjmibnnioiaaDoor
