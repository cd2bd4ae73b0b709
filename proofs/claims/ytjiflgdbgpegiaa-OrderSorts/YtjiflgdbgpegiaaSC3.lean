import Derived.Test.YtjiflgdbgpegiaaSC2
set_option linter.unusedVariables false
set_option linter.unusedSimpArgs false
namespace Go.Proofs.Ytjiflgdbgpegiaa
open Go.RowKit
set_option maxRecDepth 100000 in
set_option maxHeartbeats 1000000 in
/-- The list sorted anew, the first first of what is alike. -/
theorem Sorted_any (g c n : Nat) (l : List Nat) (w : World) (hF : F64 l) (hn : l.length = n) (hl : n ≤ 17592186044416) (hA : Arr w g l) :
    Calls Try.prog 40 #[.slice (some ⟨g, 0, none⟩) n c] w fun e w' => ∃ M, M.length = n ∧ srt kI M ∧ eqv kI M l ∧ e = .returned (.slice (some ⟨w.heap.size, 0, none⟩) n n) ∧ Arr w' w.heap.size M ∧ Keep w w' ∧ w'.heap.size = w.heap.size + 1 := by
  replace hF : Hid (F64 l) := hF
  replace hn : Hid (l.length = n) := hn
  replace hA : Hid (Arr w g l) := hA
  go_enter Try.func40, Try.ntmps40
  go_wp2_with (first
    | (at_make; refine wpList_makeF _ rfl _ _ rfl _ _ _ _ n rfl rfl rfl rfl hl ?_; intro w1 hr1 k1 z1; replace hr1 : Hid (RowF w1 w.heap.size (List.replicate n 0)) := hr1; replace z1 : Hid (w1.heap.size = w.heap.size + 1) := z1)
    | (with_reducible show wpList _ _ _ (Oper.mk _ (Op.call { callee := Callee.builtin Builtin.copy, args := _, argTypes := _ }) _ _ _ _ :: _) _ _; refine wpList_copyF rfl _ _ rfl w.heap.size g n n c l (List.replicate n 0) hn.out ?_ ?_ ?_ hr1.out (Arr.keep hA.out k1) ?_; exact List.length_replicate; kernel_rfl; kernel_rfl; intro w2 hr2 k2)
    | (go_at_call 66; refine (sortStable_any w.heap.size n n l w2 hF.out hn.out hl (RowF.arr hr2)).mono ?_; rintro e w3 ⟨⟨v, rfl⟩, ⟨M, m1, m2, m3, m4⟩, k3⟩; replace m1 : Hid (M.length = n) := m1; replace m2 : Hid (srt kI M) := m2; replace m3 : Hid (eqv kI M l) := m3; replace m4 : Hid (Arr w3 w.heap.size M) := m4))
  go_ret
  exact ⟨M, m1.out, m2.out, m3.out, rfl, m4.out, (k1.oth k2 (Nat.le_refl _)).oth k3 (Nat.le_refl _), by rw [k3.size, k2.size, z1.out]⟩
end Go.Proofs.Ytjiflgdbgpegiaa
