import Derived.Test.YteonapeoeckhfaaDoorP4
set_option linter.unusedVariables false
set_option linter.unusedSimpArgs false
namespace Go.Proofs.YteonapeoeckhfaaDoor
open Go.RowKit Go.Shelf
theorem PO.pre {W : World} {g : Nat} {l T : List UInt8} {w0 w w' : World} {e : Ending} (k : Kw W.heap.size g w0 w) (h : PO W g l T w e w') : PO W g l T w0 e w' := ⟨h.1, h.2.1, k.trans h.2.2⟩
theorem PO.cases {W : World} {g : Nat} {l T : List UInt8} {w w' : World} {e : Ending} (h : PO W g l T w e w') : (e = .returned (.tuple #[]) ∧ PO W g l T w (.returned (.tuple #[])) w') ∨ (e = .panicked [PE 4 0] ∧ PO W g l T w (.panicked [PE 4 0]) w') := by
  by_cases f : l.length + T.length ≤ 16777216
  · have := (h.1 f).1
    subst this
    exact .inl ⟨rfl, h⟩
  · have := h.2.1 f
    subst this
    exact .inr ⟨rfl, h⟩
set_option maxRecDepth 100000 in
set_option maxHeartbeats 8000000 in
theorem value_in (hI : IxC) (W : World) (g : Nat) : ∀ (n : Nat) (j : J) (v : Value) (l : List UInt8) (w : World), SizeOf.sizeOf j ≤ n → RdV W v j → Pp W w g l → l.length ≤ 16777216 → allJ plain j = true → FT j →
    Calls Tryd.prog 30 #[.pointer (some ⟨g, 0, none⟩), v] w (PO W g l (pr j) w) := by
  intro n
  induction n with
  | zero => intro j v l w hs; cases j; simp at hs
  | succ n ih =>
    intro j v l w hs hv h hl hpl hft
    rw [allJ_eq, Bool.and_eq_true, List.all_eq_true] at hpl
    obtain ⟨hp1, hp2⟩ := hpl
    have hit : ∀ i, i < j.is.length → ∀ (v : Value) (l : List UInt8) (w : World), RdV W v (j.is.getD i j0) → Pp W w g l → l.length ≤ 16777216 →
        Calls Tryd.prog 30 #[.pointer (some ⟨g, 0, none⟩), v] w (PO W g l (pr (j.is.getD i j0)) w) := fun i hi v l w hv hp hl =>
      ih _ v l w (by have := J.is_lt hi; omega) hv hp hl (hp2 _ (by simp [List.getD, hi])) (hft.item hi)
    have hfh := hft.here
    have hvv := hv
    cases hv with
    | mk k t ns is an cn ai ci X hk hn ln li hx hr =>
    have hit2 : ItemsOk W g is := hit
    have hP := plain_of (j := .mk k t ns is) (k := k) rfl
    rw [hp1] at hP
    simp only [J.t, J.ns, J.is] at hP
    have ka := (Keep.refl w).alloc (Obj.cells #[.int .u8 (k : Nat), .string t, .slice an ns.length cn, .slice ai is.length ci] 27)
    have kw := Kw.of_keep (B := W.heap.size) (g := g) ka
    have hp0 := h.keep ka
    have hpr := pr_eq k t ns is
    obtain ⟨T, hT⟩ : ∃ T, pr (.mk k t ns is) = T := ⟨_, rfl⟩
    rw [hT] at hpr ⊢
    clear hT hit ih hs hp1 hp2 hft h hx hr
    by_cases h1 : k = 1
    · subst h1
      have hT : T = [110, 117, 108, 108] := by rw [hpr]; simp
      subst hT
      have hC := write_any W g l [110, 117, 108, 108] _ hp0 hl (by simp)
      clear hpr hP hfh hit2 hvv hI hn hl hp0
      go_enter Tryd.func30, Tryd.ntmps30
      have HC := hC.mono (fun e w' q => PO.cases (PO.pre kw q))
      clear hC
      go_wp2_with (go_at_call 53; refine HC.mono ?_; clear HC; rintro e w2 (⟨rfl, q2⟩ | ⟨rfl, q2⟩))
      · go_end0
        exact q2
      · exact ⟨rfl, q2⟩
    by_cases h2 : k = 2
    · subst h2
      have hT : T = [102, 97, 108, 115, 101] := by rw [hpr]; simp
      subst hT
      have hC := write_any W g l [102, 97, 108, 115, 101] _ hp0 hl (by simp)
      clear hpr hP hfh hit2 hvv hI hn hl hp0
      go_enter Tryd.func30, Tryd.ntmps30
      have HC := hC.mono (fun e w' q => PO.cases (PO.pre kw q))
      clear hC
      go_wp2_with (go_at_call 53; refine HC.mono ?_; clear HC; rintro e w2 (⟨rfl, q2⟩ | ⟨rfl, q2⟩))
      · go_end0
        exact q2
      · exact ⟨rfl, q2⟩
    by_cases h3 : k = 3
    · subst h3
      have hT : T = [116, 114, 117, 101] := by rw [hpr]; simp
      subst hT
      have hC := write_any W g l [116, 114, 117, 101] _ hp0 hl (by simp)
      clear hpr hP hfh hit2 hvv hI hn hl hp0
      go_enter Tryd.func30, Tryd.ntmps30
      have HC := hC.mono (fun e w' q => PO.cases (PO.pre kw q))
      clear hC
      go_wp2_with (go_at_call 53; refine HC.mono ?_; clear HC; rintro e w2 (⟨rfl, q2⟩ | ⟨rfl, q2⟩))
      · go_end0
        exact q2
      · exact ⟨rfl, q2⟩
    by_cases h4 : k = 4
    · subst h4
      have hT : T = t.data.toList := by rw [hpr]; simp
      subst hT
      have hC := write_any W g l t.data.toList _ hp0 hl (by rw [Array.length_toList]; have := hfh.1; simp only [J.t] at this; exact Nat.le_trans this (by decide))
      rw [mk_dt] at hC
      clear hpr hP hfh hit2 hvv hI hn hl hp0
      go_enter Tryd.func30, Tryd.ntmps30
      have HC := hC.mono (fun e w' q => PO.cases (PO.pre kw q))
      clear hC
      go_wp2_with (go_at_call 53; refine HC.mono ?_; clear HC; rintro e w2 (⟨rfl, q2⟩ | ⟨rfl, q2⟩))
      · go_end0
        exact q2
      · exact ⟨rfl, q2⟩
    by_cases h5 : k = 5
    · subst h5
      have hT : T = qt t.data.toList := by rw [hpr]; simp
      subst hT
      have hC := quote_any hI W g l t.data.toList _ hp0 hl (by rw [Array.length_toList]; exact hfh.1)
      rw [mk_dt] at hC
      clear hpr hP hfh hit2 hvv hI hn hl hp0
      go_enter Tryd.func30, Tryd.ntmps30
      have HC := hC.mono (fun e w' q => PO.cases (PO.pre kw q))
      clear hC
      go_wp2_with (go_at_call 54; refine HC.mono ?_; clear HC; rintro e w2 (⟨rfl, q2⟩ | ⟨rfl, q2⟩))
      · go_end0
        exact q2
      · exact ⟨rfl, q2⟩
    by_cases h6 : k = 6
    · subst h6
      have hT : T = [91] ++ wn 6 ns is is.length ++ [93] := by rw [hpr]; simp
      subst hT
      have hC := within_any hI W g l [91] [93] 6 t ns is _ _ hvv hit2 hp0 hl rfl rfl (fun q => by omega) hfh
      clear hpr hP hfh hit2 hvv hI hn hl hp0
      go_enter Tryd.func30, Tryd.ntmps30
      have HC := hC.mono (fun e w' q => PO.cases (PO.pre kw q))
      clear hC
      go_wp2_with (go_at_call 55; refine HC.mono ?_; clear HC; rintro e w2 (⟨rfl, q2⟩ | ⟨rfl, q2⟩))
      · go_end0
        exact q2
      · exact ⟨rfl, q2⟩
    by_cases h7 : k = 7
    · subst h7
      have hT : T = [123] ++ wn 7 ns is is.length ++ [125] := by rw [hpr]; simp
      subst hT
      have hn7 : ns.length = is.length := by simp at hP; exact hP.1.2
      have hC := within_any hI W g l [123] [125] 7 t ns is _ _ hvv hit2 hp0 hl rfl rfl (fun _ => hn7) hfh
      clear hn7
      clear hpr hP hfh hit2 hvv hI hn hl hp0
      go_enter Tryd.func30, Tryd.ntmps30
      have HC := hC.mono (fun e w' q => PO.cases (PO.pre kw q))
      clear hC
      go_wp2_with (go_at_call 55; refine HC.mono ?_; clear HC; rintro e w2 (⟨rfl, q2⟩ | ⟨rfl, q2⟩))
      · go_end0
        exact q2
      · exact ⟨rfl, q2⟩
    exfalso
    simp [h1, h2, h3, h4, h5, h6, h7] at hP
end Go.Proofs.YteonapeoeckhfaaDoor
