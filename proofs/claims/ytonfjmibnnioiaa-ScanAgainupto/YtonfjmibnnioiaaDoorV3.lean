import Derived.Test.YtonfjmibnnioiaaDoorV2
set_option linter.unusedVariables false
set_option linter.unusedSimpArgs false
namespace Go.Proofs.YtonfjmibnnioiaaDoor
open Go.RowKit Go.Shelf
theorem i44 : (Tryd.prog.info? 44).map (fun i => (i.zero, i.size, i.bytes)) = some (some (.agg #[.int .u8 0, .string ⟨#[]⟩, .int .i64 0]), 3, 32) := by kernel_rfl
/-- Words as cells. -/
def WvL : List Wd → List Value
  | [] => []
  | c :: l => .int .u8 (c.1 : Nat) :: .string ⟨c.2.1.toArray⟩ :: .int .i64 (c.2.2 : Nat) :: WvL l
theorem WvL_len : ∀ l, (WvL l).length = l.length * 3
  | [] => rfl
  | c :: l => by simp [WvL, WvL_len l]; omega
theorem WvL_app : ∀ l m, WvL (l ++ m) = WvL l ++ WvL m
  | [], m => rfl
  | c :: l, m => by simp [WvL, WvL_app l m]
def w00 : Wd := (0, [], 0)
theorem WvL_get : ∀ (l : List Wd) (j : Nat), j < l.length → (WvL l)[j * 3]? = some (.int .u8 ((l.getD j w00).1 : Nat)) ∧ (WvL l)[j * 3 + 1]? = some (.string ⟨(l.getD j w00).2.1.toArray⟩) ∧ (WvL l)[j * 3 + 2]? = some (.int .i64 ((l.getD j w00).2.2 : Nat))
  | c :: l, 0, _ => ⟨rfl, rfl, rfl⟩
  | c :: l, j + 1, h => by
    have := WvL_get l j (by simpa using h)
    rw [show (j + 1) * 3 = j * 3 + 3 by omega]
    simpa [WvL] using this
theorem one3 {x0 x1 x2 : Value} (h0 : x0.oneCell' = true) (h1 : x1.oneCell' = true) (h2 : x2.oneCell' = true) : ∀ u ∈ [x0, x1, x2], u.oneCell' = true := by
  intro u hu
  simp only [List.mem_cons, List.not_mem_nil, or_false] at hu
  rcases hu with rfl | rfl | rfl
  · exact h0
  · exact h1
  · exact h2
/-- A list of words of one's own, made since B. -/
def OwnW (B : Nat) (v : Value) (L : List Wd) (w : World) : Prop := w.ownsRow B 44 3 v L.length (WvL L)
theorem at3 {w : World} {g : Nat} {x0 x1 x2 : Value} {T : Nat} (h : w.heap[g]? = some (.cells #[x0, x1, x2] T (0, 0))) : ∀ j u, [x0, x1, x2][j]? = some u → w.cell? ((⟨g, 0, none⟩ : Addr).add j) = some u := by
  obtain ⟨c0, c1, c2, _⟩ := cells3 h
  intro j u hj
  match j, hj with
  | 0, hj => simp at hj; subst hj; simpa [Addr.add] using c0
  | 1, hj => simp at hj; subst hj; simpa [Addr.add] using c1
  | 2, hj => simp at hj; subst hj; simpa [Addr.add] using c2
  | n + 3, hj => simp at hj
theorem fw_bad (l : List UInt8) (e n : Nat) (h : fw l = .bad e n) : (e = 30 ∨ e = 31) ∧ n ≤ l.length := by
  unfold fw at h
  cases l with
  | nil => cases h; exact ⟨.inl rfl, Nat.le_refl _⟩
  | cons c r =>
    simp only [] at h
    split at h
    · cases h
    · split at h
      · cases h
      · split at h
        · split at h
          · cases h
          · split at h
            · cases h; exact ⟨.inl rfl, Nat.zero_le _⟩
            · cases h
        · split at h
          · have hu := uq_le r.length r [] 1 (Nat.le_refl _)
            split at h
            · cases h
            · rename_i t' n' hq
              cases h
              rw [hq] at hu
              have h9 : n ≤ 1 + r.length := hu.1
              exact ⟨.inr rfl, by rw [List.length_cons]; omega⟩
          · cases h; exact ⟨.inl rfl, Nat.zero_le _⟩
end Go.Proofs.YtonfjmibnnioiaaDoor
