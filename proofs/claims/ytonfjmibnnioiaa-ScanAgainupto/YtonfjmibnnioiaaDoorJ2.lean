import Derived.Test.YtonfjmibnnioiaaDoorJ1
import Derived.Test.YtonfjmibnnioiaaDoorX3
import Derived.Lib.SplitLaws
import Derived.Lib.IndexBytes
set_option linter.unusedVariables false
set_option linter.unusedSimpArgs false
namespace Go.Proofs.YtonfjmibnnioiaaDoor
open Go.RowKit Go.Shelf
/-- The library's own variable holds some number. -/
def Ml (w : World) : Prop := ∃ m, w.cell? ⟨1, 0, none⟩ = some (.int .i64 m)
theorem Ml.keep {w w' : World} (h : Ml w) (k : Keep w w') : Ml w' := by
  obtain ⟨m, h⟩ := h
  exact ⟨m, k.cell h⟩
theorem repl_skip (b : UInt8) (l : List UInt8) (h : b ≠ 34) : ∀ k, Lib.replaceK [34] [34, 34] k (b :: l) = b :: Lib.replaceK [34] [34, 34] k l
  | 0 => rfl
  | k + 1 => by
    have e : Lib.index (b :: l) [34] = if Lib.index l [34] == -1 then -1 else Lib.index l [34] + 1 := by
      rw [Lib.index_one, Lib.index_one]
      show (if b == 34 then 0 else _) = _
      rw [if_neg (by simpa using h)]
    by_cases hm : Lib.index l [34] = -1
    · rw [hm] at e
      rw [Lib.replaceK, Lib.replaceK, e, hm]
      rfl
    · have hge := Lib.index_ge l [34]
      obtain ⟨i, hi⟩ : ∃ i : Nat, Lib.index l [34] = i := ⟨(Lib.index l [34]).toNat, by omega⟩
      rw [if_neg (by simpa using hm), hi] at e
      rw [Lib.replaceK_hit _ _ k l i hi, Lib.replaceK_hit _ _ k (b :: l) (i + 1) (by rw [e]; omega)]
      simp
theorem repl_dbl : ∀ l : List UInt8, Lib.replaceK [34] [34, 34] (l.count 34) l = dbl l
  | [] => rfl
  | b :: l => by
    have ih := repl_dbl l
    by_cases h : b = 34
    · subst h
      rw [List.count_cons_self, Lib.replaceK_hit _ _ _ _ 0 (by rw [Lib.index_one]; rfl)]
      simp only [List.take_zero, List.nil_append, List.length_singleton, Nat.zero_add, List.drop_one, List.tail_cons, ih]
      unfold dbl
      rw [List.flatMap_cons, if_pos rfl]
    · rw [List.count_cons_of_ne (by simpa using h), repl_skip b l h, ih]
      unfold dbl
      rw [List.flatMap_cons, if_neg h]
      rfl
theorem all_dbl (l : List UInt8) : Lib.replaceAll l [34] [34, 34] = dbl l := by
  unfold Lib.replaceAll Lib.replace
  rw [if_neg (by decide)]
  unfold Lib.replaceNum
  rw [if_pos (.inl (by decide)), Lib.count_one, repl_dbl]
theorem ReplaceAll_any (l : List UInt8) (w : World) (hm : Ml w) (hs : l.length ≤ 4294967000) : Calls Tryd.prog 62 #[.string ⟨l.toArray⟩, .string ⟨#[34]⟩, .string ⟨#[34, 34]⟩] w fun e w' => e = .returned (.string ⟨(dbl l).toArray⟩) ∧ Keep w w' := by
  obtain ⟨m, hm⟩ := hm
  have hc : Lib.countB ⟨l.toArray⟩ ⟨#[34]⟩ ≤ l.length := by
    show Lib.count (ByteArray.mk l.toArray).data.toList [34] ≤ _
    rw [dt_mk, Lib.count_one]; exact List.count_le_length
  have := Tryd.strings_ReplaceAll ⟨l.toArray⟩ ⟨#[34]⟩ ⟨#[34, 34]⟩ m w (by rw [sz_mk]; omega) hm (by decide) (by rw [sz_mk]; have : (ByteArray.mk #[34, 34]).size = 2 := rfl; rw [this]; omega)
  rw [dt_mk] at this
  have e : Lib.replaceAll l (ByteArray.mk #[34]).data.toList (ByteArray.mk #[34, 34]).data.toList = dbl l := all_dbl l
  rw [e] at this
  exact this
/-- Has a line's end. -/
def hasNL (l : List UInt8) : Bool := l.any isNL
theorem nl_has (l : List UInt8) : decide (nlI l ≥ 0) = hasNL l := by
  unfold nlI hasNL lnT
  induction l with
  | nil => rfl
  | cons c l ih =>
    rw [List.any_cons, List.takeWhile_cons]
    cases h : isNL c with
    | true => simp
    | false =>
      simp only [Bool.not_false, if_true, Bool.false_or, List.length_cons]
      rw [← ih]
      by_cases hq : (List.takeWhile (fun c => !isNL c) l).length = l.length
      · simp [hq]
      · rw [if_neg hq, if_neg (by omega)]
        simp
        omega
theorem ContainsAny_any (l : List UInt8) (w : World) (hs : l.length ≤ 4294967000) : Calls Tryd.prog 41 #[.string ⟨l.toArray⟩, .string ⟨#[13, 10]⟩] w fun e w' => e = .returned (.bool (hasNL l)) ∧ Keep w w' := by
  have hI := IndexAny_any l w hs
  have hn := nl_has l
  go_enter Tryd.func41, Tryd.ntmps41
  go_wp2_with (go_at_call 51; refine hI.mono ?_; rintro e w1 ⟨rfl, k1⟩)
  go_ret
  exact ⟨by rw [← hn]; rfl, k1⟩
theorem cat3 (l : List UInt8) : (ByteArray.mk #[34] ++ ⟨(dbl l).toArray⟩ ++ ⟨#[34]⟩ : ByteArray) = ⟨(34 :: (dbl l ++ [34])).toArray⟩ := by
  have : ∀ a b : ByteArray, (a ++ b).data = a.data ++ b.data := fun a b => ByteArray.data_append ..
  apply ByteArray.ext
  rw [this, this]
  simp
set_option maxRecDepth 100000 in
theorem fieldText_any (l : List UInt8) (y : UInt8) (w : World) (hm : Ml w) (hs : l.length ≤ 4294967000) : Calls Tryd.prog 44 #[.string ⟨l.toArray⟩, .int .u8 (y.toNat : Nat)] w fun e w' => e = .returned (.string ⟨(ft l y).toArray⟩) ∧ Keep w w' := by
  have hI := IndexByte_any l y w
  have hP := HasPrefix_any l [34] w
  have hR := ReplaceAll_any l w hm hs
  have hix : decide (ixB l y < 0) = decide (y ∉ l) := by
    unfold ixB
    by_cases h : y ∈ l
    · rw [if_pos h, decide_eq_false (by omega), decide_eq_false (by simp [h])]
    · rw [if_neg h, decide_eq_true h]; rfl
  have hpx : [34].isPrefixOf l = decide (l.head? = some 34) := by
    cases l with
    | nil => rfl
    | cons c l => by_cases h : c = 34
                  · subst h; simp
                  · have h' : ¬ 34 = c := fun e => h e.symm
                    simp [List.isPrefixOf, h, h']
  rw [hpx] at hP
  by_cases h1 : y ∉ l
  · rw [decide_eq_true h1] at hix
    by_cases h2 : l.head? = some 34
    · have hf : ft l y = 34 :: (dbl l ++ [34]) := by unfold ft; rw [if_neg (fun h => h.2 h2)]
      rw [decide_eq_true h2] at hP
      have hF : Hid _ := hf
      clear hf h1 h2 hpx
      go_enter Tryd.func44, Tryd.ntmps44
      go_wp2_with (first | (go_at_call 60; refine hI.mono ?_; rintro e w1 ⟨rfl, rfl⟩) | (go_at_call 52; refine hP.mono ?_; rintro e w1 ⟨rfl, rfl⟩) | (go_at_call 62; refine hR.mono ?_; rintro e w1 ⟨rfl, k1⟩))
      all_goals try (exfalso; have := dbl_len l; omega)
      go_ret
      exact ⟨by rw [hF.out]; exact congrArg (fun z => Ending.returned (Value.string z)) (cat3 l), k1⟩
    · have hf : ft l y = l := by unfold ft; rw [if_pos ⟨h1, h2⟩]
      rw [decide_eq_false h2] at hP
      have hF : Hid _ := hf
      clear hf h1 h2 hpx
      go_enter Tryd.func44, Tryd.ntmps44
      go_wp2_with (first | (go_at_call 60; refine hI.mono ?_; rintro e w1 ⟨rfl, rfl⟩) | (go_at_call 52; refine hP.mono ?_; rintro e w1 ⟨rfl, rfl⟩) | (go_at_call 62; refine hR.mono ?_; rintro e w1 ⟨rfl, k1⟩))
      go_ret
      exact ⟨by rw [hF.out]; rfl, Keep.refl _⟩
  · rw [decide_eq_false h1] at hix
    have hf : ft l y = 34 :: (dbl l ++ [34]) := by unfold ft; rw [if_neg (fun h => h1 h.1)]
    have hF : Hid _ := hf
    clear hf h1 hpx
    go_enter Tryd.func44, Tryd.ntmps44
    go_wp2_with (first | (go_at_call 60; refine hI.mono ?_; rintro e w1 ⟨rfl, rfl⟩) | (go_at_call 52; refine hP.mono ?_; rintro e w1 ⟨rfl, rfl⟩) | (go_at_call 62; refine hR.mono ?_; rintro e w1 ⟨rfl, k1⟩))
    all_goals try (exfalso; have := dbl_len l; omega)
    go_ret
    exact ⟨by rw [hF.out]; exact congrArg (fun z => Ending.returned (Value.string z)) (cat3 l), k1⟩
end Go.Proofs.YtonfjmibnnioiaaDoor
