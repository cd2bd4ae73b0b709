import Derived.Test.YtpdjpjkieafnbaaGreatDoorZ8
import Derived.Test.YtpdjpjkieafnbaaGreatDoorR10
import Derived.Test.YtpdjpjkieafnbaaGreatDoorUR4
set_option linter.unusedVariables false
set_option linter.unusedSimpArgs false
namespace Go.Proofs.YtpdjpjkieafnbaaGreatDoor.Li
open Go.RowKit Lb
theorem tkx_at {s : List UInt8} {k : Nat} (h : k < s.length) (ts : List UInt8) : tk s ts k = decide (s.getD k 0 ∈ ts) := by
  unfold tk
  congr 1
  apply propext
  exact ⟨fun q => q.2, fun q => ⟨h, q⟩⟩
theorem tkx_end {s : List UInt8} {k : Nat} (h : ¬ k < s.length) (ts : List UInt8) : tk s ts k = false := by
  unfold tk
  exact decide_eq_false (fun q => h q.1)
theorem pre_one (s : List UInt8) (k : Nat) (b : UInt8) : Lib.hasPrefix (s.drop k) [b] = tk s [b] k := by
  unfold Lib.hasPrefix
  by_cases h : k < s.length
  · rw [tkx_at h, List.drop_eq_getElem_cons h]
    rw [show s.getD k 0 = s[k] by simp [List.getD, h]]
    by_cases e : s[k] = b
    · simp [List.isPrefixOf, e]
    · have e2 : ¬ b = s[k] := fun q => e q.symm
      simp [List.isPrefixOf, e, e2]
  · rw [tkx_end h, List.drop_eq_nil_of_le (by omega)]
    rfl
theorem pre_zero (s : List UInt8) (b : UInt8) : Lib.hasPrefix s [b] = tk s [b] 0 := pre_one s 0 b
theorem pre_twice (s : List UInt8) (k : Nat) (a b : UInt8) : Lib.hasPrefix (s.drop k) [a, b] = (tk s [a] k && tk s [b] (k + 1)) := by
  rw [← pre_one, ← pre_one]
  unfold Lib.hasPrefix
  by_cases h : k < s.length
  · rw [List.drop_eq_getElem_cons h]
    simp [List.isPrefixOf]
  · rw [List.drop_eq_nil_of_le (by omega)]
    rfl
/-- A word begins behind the sign. -/
def cWd (s : List UInt8) : Bool := decide (cK1 s < s.length ∧ (s.getD (cK1 s) 0 = 105 ∨ (s.getD (cK1 s) 0 = 110 ∧ cNg s = false)))
theorem wrd_alk (s : List UInt8) : ∀ (t : List UInt8) (k : Nat), wrd s k t = alk (s.drop k) t
  | [], k => by
    unfold wrd
    cases s.drop k <;> rfl
  | b :: t, k => by
    unfold wrd
    by_cases h : k < s.length
    · rw [List.drop_eq_getElem_cons h, show s.getD k 0 = s[k] by simp [List.getD, h], wrd_alk s t (k + 1)]
      simp only [alk, h, true_and]
    · rw [List.drop_eq_nil_of_le (by omega), if_neg (fun q => h q.1)]
      rfl
theorem alk_full : ∀ (t u : List UInt8), t.length ≤ alk u t → u.length ≤ t.length → u = t
  | [], u, _, h => by simpa using h
  | b :: t, [], h, _ => by simp [alk] at h
  | b :: t, a :: u, h, h2 => by
    unfold alk at h
    by_cases e : a = b
    · rw [if_pos e] at h
      rw [e, alk_full t u (by simpa using h) (by simpa using h2)]
    · rw [if_neg e] at h
      simp at h
theorem cAt_ge (s : List UInt8) : cK1 s ≤ cAt s := by
  have h2 : cK1 s ≤ cK2 s := Nat.le_add_right _ _
  have h3 : cK2 s ≤ cK3 s := Nat.le_add_right _ _
  have h4 : cK3 s ≤ cK4 s := by unfold cK4; split <;> omega
  have h5 : cK4 s ≤ cAt s := by
    unfold cAt
    split
    · unfold cpK
      split
      · have : cK4 s ≤ cpJ s (cK4 s) := by unfold cpJ; split <;> omega
        omega
      · exact Nat.le_refl _
    · exact Nat.le_refl _
  omega
theorem cNg_cons (a : UInt8) (t : List UInt8) : cNg (a :: t) = decide (a = 45) := by
  unfold cNg
  rw [pre_zero, tkx_at (s := a :: t) (k := 0) (by simp)]
  simp
theorem cWd_cons (a : UInt8) (t : List UInt8) (h : a ≠ 45) : cWd (a :: t) = decide (a = 105 ∨ a = 110) := by
  have e : cNg (a :: t) = false := by rw [cNg_cons]; exact decide_eq_false h
  unfold cWd cK1
  rw [e]
  simp
theorem cWd_neg (t : List UInt8) : cWd (45 :: t) = tk t [105] 0 := by
  have e : cNg (45 :: t) = true := by rw [cNg_cons]; rfl
  unfold cWd cK1 tk
  rw [e]
  cases t <;> simp
theorem wd_words : cWd [110, 97, 110] = true ∧ cWd [105, 110, 102] = true ∧ cWd [45, 105, 110, 102] = true := by
  refine ⟨?_, ?_, ?_⟩
  · rw [cWd_cons _ _ (by decide)]; decide
  · rw [cWd_cons _ _ (by decide)]; decide
  · rw [cWd_neg]; decide
/-- Where no word begins, the place is that of the digits. -/
theorem flt_cAt {s : List UInt8} (h : cWd s = false) : fltAt s = cAt s ∧ s ≠ [110, 97, 110] ∧ s ≠ [105, 110, 102] ∧ s ≠ [45, 105, 110, 102] := by
  have hg := cAt_ge s
  refine ⟨?_, ?_, ?_, ?_⟩
  · unfold fltAt
    cases s with
    | nil => simp [alk]
    | cons a t =>
      by_cases e : a = 45
      · subst e
        have e1 : cK1 (45 :: t) = 1 := by unfold cK1; rw [cNg_cons]; rfl
        rw [cWd_neg] at h
        have e2 : alk (45 :: t) [110, 97, 110] = 0 := rfl
        have e3 : alk (45 :: t) [105, 110, 102] = 0 := rfl
        have e4 : alk (45 :: t) [45, 105, 110, 102] = 1 := by
          show alk t [105, 110, 102] + 1 = 1
          cases t with
          | nil => rfl
          | cons c u =>
            rw [tkx_at (s := c :: u) (k := 0) (by simp)] at h
            have hc : ¬ c = 105 := by simpa using h
            unfold alk
            rw [if_neg hc]
        rw [e2, e3, e4]
        omega
      · rw [cWd_cons _ _ e] at h
        have h2 := of_decide_eq_false h
        have e2 : alk (a :: t) [110, 97, 110] = 0 := by unfold alk; rw [if_neg (fun q => h2 (.inr q))]
        have e3 : alk (a :: t) [105, 110, 102] = 0 := by unfold alk; rw [if_neg (fun q => h2 (.inl q))]
        have e4 : alk (a :: t) [45, 105, 110, 102] = 0 := by unfold alk; rw [if_neg e]
        rw [e2, e3, e4]
        omega
  · rintro rfl; rw [wd_words.1] at h; cases h
  · rintro rfl; rw [wd_words.2.1] at h; cases h
  · rintro rfl; rw [wd_words.2.2] at h; cases h
/-- Where a word begins there is no digit. -/
theorem wd_none {s : List UInt8} (h : cWd s = true) : cAt s = cK1 s ∧ cOk s = false := by
  have h2 := of_decide_eq_true h
  have hne : ∀ c : UInt8, c = 105 ∨ c = 110 → c ≠ 48 ∧ isX false c = false := by
    intro c hc
    rcases hc with rfl | rfl <;> exact ⟨by decide, by decide⟩
  have hc := hne (s.getD (cK1 s) 0) (by rcases h2.2 with q | q; exact .inl q; exact .inr q.1)
  have hx : cHx s = false := by
    unfold cHx
    rw [pre_twice, tkx_at h2.1, Bool.and_eq_false_iff]
    left
    exact decide_eq_false (by simpa using hc.1)
  have k2 : cK2 s = cK1 s := by unfold cK2; rw [hx]; rfl
  have hw : cWh s = [] := by
    unfold cWh
    rw [k2, hx, List.drop_eq_getElem_cons h2.1]
    have : s[cK1 s] = s.getD (cK1 s) 0 := by simp [List.getD, h2.1]
    rw [List.takeWhile_cons, this, hc.2]
    rfl
  obtain ⟨-, -, -, a4, a5⟩ := way_A (s := s) (by rw [hw]; rfl)
  refine ⟨?_, a5⟩
  rw [a4]
  unfold cK3
  rw [hw, k2]
  rfl
theorem cpJ_le {hx : Bool} {s : List UInt8} {k : Nat} (h : cpE hx s k = true) : cpJ s k ≤ s.length := by
  have h1 := (of_decide_eq_true h).1
  unfold cpJ
  split
  · rename_i q
    have := (of_decide_eq_true q).1
    omega
  · omega
theorem cpK_le (hx : Bool) (s : List UInt8) (k : Nat) (hk : k ≤ s.length) : cpK hx s k ≤ s.length := by
  unfold cpK
  cases h : cpE hx s k with
  | false => exact hk
  | true =>
    rw [if_pos rfl]
    unfold cpD
    rw [h, if_pos rfl]
    exact (tw_cut isD s (cpJ s k)).2 (cpJ_le h)
/-- The power's text. -/
theorem pw_cut {hx : Bool} {s : List UInt8} {k : Nat} (h : cpE hx s k = true) : (s.take (cpK hx s k)).drop (k + 1) = (if cpS s k then [s.getD (k + 1) 0] else []) ++ cpD hx s k := by
  have eD : cpD hx s k = (s.drop (cpJ s k)).takeWhile isD := by unfold cpD; rw [h]; rfl
  have eK : cpK hx s k = cpJ s k + ((s.drop (cpJ s k)).takeWhile isD).length := by unfold cpK; rw [h, ← eD]; rfl
  have a := (tw_cut isD s (cpJ s k)).1
  rw [← eK, ← eD] at a
  cases hs : cpS s k with
  | false =>
    have e : cpJ s k = k + 1 := by unfold cpJ; rw [hs]; rfl
    rw [e] at a
    rw [a]
    rfl
  | true =>
    have e : cpJ s k = k + 2 := by unfold cpJ; rw [hs]; rfl
    have hlt := (of_decide_eq_true hs).1
    rw [e] at a
    have hkK : k + 1 < (s.take (cpK hx s k)).length := by
      rw [List.length_take, eK, e]
      omega
    rw [List.drop_eq_getElem_cons hkK, a]
    rw [if_pos rfl]
    show _ = _ :: _
    congr 1
    simp [List.getD, hlt]
/-- What Split answers. -/
def nmT (ng inf nan said neg hx : Bool) (wh pt pw : List UInt8) : Array Value := #[.bool ng, .bool inf, .bool nan, .int .u64 0, .int .i64 0, .bool said, .bool neg, .bool hx, .string ⟨wh.toArray⟩, .string ⟨pt.toArray⟩, .string ⟨pw.toArray⟩]
def cPw (s : List UInt8) : List UInt8 := if cpE (cHx s) s (cK4 s) then (if cpS s (cK4 s) then [s.getD (cK4 s + 1) 0] else []) ++ cpD (cHx s) s (cK4 s) else []
def TSh (T : Array Value) : Prop := ∃ x0 x1 x2 x3 x4 x5 l1 l2 l3, T = nmT x0 x1 x2 x3 x4 x5 l1 l2 l3
def SpA (s : List UInt8) (T : Array Value) (V : Int) : Prop :=
  (TSh T ∧ V = (fltAt s : Nat) ∧ cOk s = false ∧ s ≠ [110, 97, 110] ∧ s ≠ [105, 110, 102] ∧ s ≠ [45, 105, 110, 102]) ∨
  (s = [110, 97, 110] ∧ V = -1 ∧ T = nmT false false true true false false [] [] []) ∨
  (s = [105, 110, 102] ∧ V = -1 ∧ T = nmT false true false true false false [] [] []) ∨
  (s = [45, 105, 110, 102] ∧ V = -1 ∧ T = nmT true true false true true false [] [] []) ∨
  (cOk s = true ∧ V = -1 ∧ T = nmT false false false false (cNg s) (cHx s) (cWh s) (cPt s) (cPw s))
theorem sp_bad {s : List UInt8} {T : Array Value} {V : Int} (h : cWd s = false) (ho : cOk s = false) (hV : V = (cAt s : Nat)) (hT : TSh T) : SpA s T V := by
  obtain ⟨a, b, c, d⟩ := flt_cAt h
  exact .inl ⟨hT, by rw [hV, a], ho, b, c, d⟩
theorem sp_ok {s : List UInt8} {T : Array Value} {V : Int} (ho : cOk s = true) (hV : V = -1) (hT : T = nmT false false false false (cNg s) (cHx s) (cWh s) (cPt s) (cPw s)) : SpA s T V :=
  .inr (.inr (.inr (.inr ⟨ho, hV, hT⟩)))
/-- The three words, whole or not. -/
theorem sp_nan {s : List UInt8} {T : Array Value} {V : Int} (hg : cNg s = false) (hl : 0 < s.length) (hc : s.getD 0 0 = 110) (n : Nat) (hn : wrd s 0 [110, 97, 110] = n) (hT : TSh T) (h : (n < 3 ∨ 3 < s.length) ∧ V = (n : Nat) ∨ ¬ (n < 3 ∨ 3 < s.length) ∧ V = -1 ∧ T = nmT false false true true false false [] [] []) : SpA s T V := by
  have k1 : cK1 s = 0 := by unfold cK1; rw [hg]; rfl
  have hw : cWd s = true := by unfold cWd; rw [k1]; exact decide_eq_true ⟨hl, .inr ⟨hc, hg⟩⟩
  obtain ⟨a1, a2⟩ := wd_none hw
  rw [wrd_alk, List.drop_zero] at hn
  rcases h with ⟨h, e⟩ | ⟨h, e, e2⟩
  · left
    cases s with
    | nil => simp at hl
    | cons a t =>
      have ea : a = 110 := by simpa using hc
      subst ea
      have e3 : alk (110 :: t) [105, 110, 102] = 0 := rfl
      have e4 : alk (110 :: t) [45, 105, 110, 102] = 0 := rfl
      refine ⟨hT, ?_, a2, ?_, ?_, ?_⟩
      · rw [e]
        unfold fltAt
        rw [a1, k1, e3, e4, hn]
        congr 1
        omega
      · rintro q
        rw [q] at h hn
        have : n = 3 := by rw [← hn]; rfl
        simp at h
        omega
      · intro q; simp at q
      · intro q; simp at q
  · right; left
    refine ⟨?_, e, e2⟩
    apply alk_full [110, 97, 110] s
    · rw [hn]; show 3 ≤ n; omega
    · show s.length ≤ 3; omega
theorem sp_inf {s : List UInt8} {T : Array Value} {V : Int} (hg : cNg s = false) (hl : 0 < s.length) (hc : s.getD 0 0 = 105) (n : Nat) (hn : wrd s 0 [105, 110, 102] = n) (hT : TSh T) (h : (n < 3 ∨ 3 < s.length) ∧ V = (n : Nat) ∨ ¬ (n < 3 ∨ 3 < s.length) ∧ V = -1 ∧ T = nmT false true false true false false [] [] []) : SpA s T V := by
  have k1 : cK1 s = 0 := by unfold cK1; rw [hg]; rfl
  have hw : cWd s = true := by unfold cWd; rw [k1]; exact decide_eq_true ⟨hl, .inl hc⟩
  obtain ⟨a1, a2⟩ := wd_none hw
  rw [wrd_alk, List.drop_zero] at hn
  rcases h with ⟨h, e⟩ | ⟨h, e, e2⟩
  · left
    cases s with
    | nil => simp at hl
    | cons a t =>
      have ea : a = 105 := by simpa using hc
      subst ea
      have e3 : alk (105 :: t) [110, 97, 110] = 0 := rfl
      have e4 : alk (105 :: t) [45, 105, 110, 102] = 0 := rfl
      refine ⟨hT, ?_, a2, ?_, ?_, ?_⟩
      · rw [e]
        unfold fltAt
        rw [a1, k1, e3, e4, hn]
        congr 1
        omega
      · intro q; simp at q
      · rintro q
        rw [q] at h hn
        have : n = 3 := by rw [← hn]; rfl
        simp at h
        omega
      · intro q; simp at q
  · right; right; left
    refine ⟨?_, e, e2⟩
    apply alk_full [105, 110, 102] s
    · rw [hn]; show 3 ≤ n; omega
    · show s.length ≤ 3; omega
theorem sp_ninf {s : List UInt8} {T : Array Value} {V : Int} (hg : cNg s = true) (hl : 1 < s.length) (hc : s.getD 1 0 = 105) (n : Nat) (hn : wrd s 1 [105, 110, 102] = n) (hT : TSh T) (h : (n < 3 ∨ 4 < s.length) ∧ V = (1 + n : Nat) ∨ ¬ (n < 3 ∨ 4 < s.length) ∧ V = -1 ∧ T = nmT true true false true true false [] [] []) : SpA s T V := by
  have k1 : cK1 s = 1 := by unfold cK1; rw [hg]; rfl
  have hw : cWd s = true := by unfold cWd; rw [k1]; exact decide_eq_true ⟨hl, .inl hc⟩
  obtain ⟨a1, a2⟩ := wd_none hw
  rw [wrd_alk] at hn
  cases s with
  | nil => simp at hl
  | cons a t =>
    have ea : a = 45 := by rw [cNg_cons] at hg; exact of_decide_eq_true hg
    subst ea
    have hn2 : alk t [105, 110, 102] = n := hn
    rcases h with ⟨h, e⟩ | ⟨h, e, e2⟩
    · left
      have e3 : alk (45 :: t) [110, 97, 110] = 0 := rfl
      have e4 : alk (45 :: t) [105, 110, 102] = 0 := rfl
      have e5 : alk (45 :: t) [45, 105, 110, 102] = n + 1 := by rw [← hn2]; rfl
      refine ⟨hT, ?_, a2, ?_, ?_, ?_⟩
      · rw [e]
        unfold fltAt
        rw [a1, k1, e3, e4, e5]
        congr 1
        omega
      · intro q; simp at q
      · intro q; simp at q
      · intro q
        have q2 : t = [105, 110, 102] := by simpa using q
        rw [q2] at h hn2
        have : n = 3 := by rw [← hn2]; rfl
        simp at h
        omega
    · right; right; right; left
      refine ⟨?_, e, e2⟩
      rw [alk_full [105, 110, 102] t (by rw [hn2]; show 3 ≤ n; omega) (by have : (45 :: t).length ≤ 4 := by omega
                                                                          simpa using this)]
end Go.Proofs.YtpdjpjkieafnbaaGreatDoor.Li
set_option linter.unusedVariables false
set_option linter.unusedSimpArgs false
namespace Go.Proofs.YtpdjpjkieafnbaaGreatDoor.Li
open Go.RowKit Lb
/-- A box of eleven: a Text. -/
def Bk (w : World) (g : Nat) (v : Array Value) : Prop := w.heap[g]? = some (.cells v 89 (0, 0))
theorem Bk.cell {w : World} {g : Nat} {v : Array Value} (h : Bk w g v) (j : Nat) : w.cell? ⟨g, j, none⟩ = v[j]? := cell_of_row w g j v 89 (0, 0) h
theorem Bk.free {w : World} {g : Nat} {v : Array Value} (h : Bk w g v) (j : Nat) : w.frozen? ⟨g, j, none⟩ = false := frozen_of_row w g j _ 89 h
theorem Bk.keep {w w' : World} {g : Nat} {v : Array Value} (h : Bk w g v) (k : Keep w w') : Bk w' g v := by
  unfold Bk; rw [k.block g (Array.getElem?_eq_some_iff.1 h).1]; exact h
theorem Bk.lt {w : World} {g : Nat} {v : Array Value} (h : Bk w g v) : g < w.heap.size := (Array.getElem?_eq_some_iff.1 h).1
theorem Bk.new (w : World) (v : Array Value) : Bk (w.alloc (.cells v 89)) w.heap.size v := heap_alloc_new w _
theorem Bk.two (w : World) (A : Array Value) (o : Obj) : Bk ((w.alloc (.cells A 89)).alloc o) w.heap.size A := (Bk.new w A).keep ((Keep.refl _).alloc o)
theorem Bk.two1 (w : World) (A : Array Value) (o : Obj) : Bk ((w.alloc o).alloc (.cells A 89)) (w.heap.size + 1) A := by
  have h := Bk.new (w.alloc o) A
  have e : (w.alloc o).heap.size = w.heap.size + 1 := by simp
  rw [e] at h
  exact h
theorem keep_two (w : World) (o o' : Obj) : Keep w ((w.alloc o).alloc o') := ((Keep.refl w).alloc o).alloc o'
theorem Bk.set {w : World} {g : Nat} {v : Array Value} (h : Bk w g v) (j : Nat) (x : Value) : Bk (w.setCell ⟨g, j, none⟩ x) g (v.setIfInBounds j x) := heap_setCell_same w g j _ 89 x h
theorem Bk.eleven {w : World} {g : Nat} {v0 v1 v2 v3 v4 v5 v6 v7 v8 v9 v10 : Value} (h : Bk w g #[v0, v1, v2, v3, v4, v5, v6, v7, v8, v9, v10]) :
    w.cell? ⟨g, 0, none⟩ = some v0 ∧ w.cell? ⟨g, 1, none⟩ = some v1 ∧ w.cell? ⟨g, 2, none⟩ = some v2 ∧ w.cell? ⟨g, 3, none⟩ = some v3 ∧ w.cell? ⟨g, 4, none⟩ = some v4 ∧ w.cell? ⟨g, 5, none⟩ = some v5 ∧ w.cell? ⟨g, 6, none⟩ = some v6 ∧ w.cell? ⟨g, 7, none⟩ = some v7 ∧ w.cell? ⟨g, 8, none⟩ = some v8 ∧ w.cell? ⟨g, 9, none⟩ = some v9 ∧ w.cell? ⟨g, 10, none⟩ = some v10 :=
  ⟨h.cell 0, h.cell 1, h.cell 2, h.cell 3, h.cell 4, h.cell 5, h.cell 6, h.cell 7, h.cell 8, h.cell 9, h.cell 10⟩
theorem Bk.frs {w : World} {g : Nat} {v : Array Value} (h : Bk w g v) :
    w.frozen? ⟨g, 0, none⟩ = false ∧ w.frozen? ⟨g, 1, none⟩ = false ∧ w.frozen? ⟨g, 2, none⟩ = false ∧ w.frozen? ⟨g, 3, none⟩ = false ∧ w.frozen? ⟨g, 4, none⟩ = false ∧ w.frozen? ⟨g, 5, none⟩ = false ∧ w.frozen? ⟨g, 6, none⟩ = false ∧ w.frozen? ⟨g, 7, none⟩ = false ∧ w.frozen? ⟨g, 8, none⟩ = false ∧ w.frozen? ⟨g, 9, none⟩ = false ∧ w.frozen? ⟨g, 10, none⟩ = false :=
  ⟨h.free 0, h.free 1, h.free 2, h.free 3, h.free 4, h.free 5, h.free 6, h.free 7, h.free 8, h.free 9, h.free 10⟩
/-- All eleven written. -/
theorem Bk.all {w : World} {g : Nat} {v0 v1 v2 v3 v4 v5 v6 v7 v8 v9 v10 : Value} (h : Bk w g #[v0, v1, v2, v3, v4, v5, v6, v7, v8, v9, v10]) (x0 x1 x2 x3 x4 x5 x6 x7 x8 x9 x10 : Value) :
    Bk (((((((((((w.setCell ⟨g, 0, none⟩ x0).setCell ⟨g, 1, none⟩ x1).setCell ⟨g, 2, none⟩ x2).setCell ⟨g, 3, none⟩ x3).setCell ⟨g, 4, none⟩ x4).setCell ⟨g, 5, none⟩ x5).setCell ⟨g, 6, none⟩ x6).setCell ⟨g, 7, none⟩ x7).setCell ⟨g, 8, none⟩ x8).setCell ⟨g, 9, none⟩ x9).setCell ⟨g, 10, none⟩ x10) g #[x0, x1, x2, x3, x4, x5, x6, x7, x8, x9, x10] := by
  have := ((((((((((h.set 0 x0).set 1 x1).set 2 x2).set 3 x3).set 4 x4).set 5 x5).set 6 x6).set 7 x7).set 8 x8).set 9 x9).set 10 x10
  simpa using this
theorem Keep.all11 {w0 w : World} {g : Nat} (k : Keep w0 w) (hg : w0.heap.size ≤ g) (x0 x1 x2 x3 x4 x5 x6 x7 x8 x9 x10 : Value) :
    Keep w0 (((((((((((w.setCell ⟨g, 0, none⟩ x0).setCell ⟨g, 1, none⟩ x1).setCell ⟨g, 2, none⟩ x2).setCell ⟨g, 3, none⟩ x3).setCell ⟨g, 4, none⟩ x4).setCell ⟨g, 5, none⟩ x5).setCell ⟨g, 6, none⟩ x6).setCell ⟨g, 7, none⟩ x7).setCell ⟨g, 8, none⟩ x8).setCell ⟨g, 9, none⟩ x9).setCell ⟨g, 10, none⟩ x10) :=
  ((((((((((k.setCell hg x0).setCell hg x1).setCell hg x2).setCell hg x3).setCell hg x4).setCell hg x5).setCell hg x6).setCell hg x7).setCell hg x8).setCell hg x9).setCell hg x10
theorem results_box11 {fn : Func} {t u : Tmp} (h : fn.results = #[.cell t 89, .tmp u]) (tmps : Array Value) (w : World) (g : Nat) (v0 v1 v2 v3 v4 v5 v6 v7 v8 v9 v10 : Value) (hp : tmps.getD t undef = .pointer (some ⟨g, 0, none⟩)) (hh : Bk w g #[v0, v1, v2, v3, v4, v5, v6, v7, v8, v9, v10]) :
    (results fn tmps).run Tryz.prog w = .ok (.tuple #[.agg #[v0, v1, v2, v3, v4, v5, v6, v7, v8, v9, v10], tmps.getD u undef]) w := by
  obtain ⟨c0, c1, c2, c3, c4, c5, c6, c7, c8, c9, c10⟩ := hh.eleven
  have hp' : (tmps[t]?).getD undef = .pointer (some ⟨g, 0, none⟩) := by simpa using hp
  simp [results, h, hp, hp', go_sem, c0, c1, c2, c3, c4, c5, c6, c7, c8, c9, c10]
theorem neI {a b : Int} (h : a ≠ b) : (a == b) = false := by rw [beq_eq_false_iff_ne]; exact h
theorem byt1 (c n : UInt8) (z : Int) (h : z = (n.toNat : Int)) : ((c.toNat : Int) == z) = decide (c ∈ [n]) := by
  rw [h]
  by_cases q : c = n
  · rw [q]; simp
  · have : ¬ (c.toNat : Int) = (n.toNat : Int) := fun r => q (UInt8.toNat_inj.1 (by omega))
    rw [neI this, decide_eq_false (by simpa using q)]
end Go.Proofs.YtpdjpjkieafnbaaGreatDoor.Li
