import Derived.Test.YtmhgpgdekaeegaaDoorProg
import Derived.Test.YtmhgpgdekaeegaaDoorBB3
import Derived.WalkKit
import Derived.WalkSpells
import Derived.WalkLawsBesides
import Derived.Laws.CopyOwn
import Derived.Deep.Draws
import Derived.Deep.QuietTactic
import Derived.BigQuiet
import Derived.Deep.RegionWith
import Derived.Deep.RegionHeld3
set_option linter.unusedVariables false
set_option linter.unusedSimpArgs false
namespace Go.Proofs.YtmhgpgdekaeegaaDoor.Bi
open Go.RowKit
/-- What has the bits of f, of n. -/
def mkl (n : Nat) (f : Nat → Bool) (l : List Nat) : Prop := l.length = (n + 63) / 64 ∧ W64 l ∧ ∀ i, hs l i = (decide (i < n) && f i)
theorem mkl_eq {n : Nat} {f : Nat → Bool} {l m : List Nat} (h1 : mkl n f l) (h2 : mkl n f m) : l = m :=
  hs_ext (h1.1.trans h2.1.symm) h1.2.1 h2.2.1 (fun i _ => by rw [h1.2.2, h2.2.2])
set_option maxRecDepth 100000 in
set_option maxHeartbeats 400000 in
theorem Mask_ok (n a b : Nat) (w : World) (hn : n ≤ 1048576) (hab : a ≤ b) (hbn : b ≤ n) :
    Calls Tryd.prog 6 #[.int .i64 (n : Nat), .int .i64 (a : Nat), .int .i64 (b : Nat)] w fun e w' => ∃ l : List Nat, e = .returned (.tuple #[.slice (some ⟨w.heap.size, 0, none⟩) l.length l.length, .int .i64 0]) ∧ Row w' w.heap.size l ∧ mkl n (fun i => !decide (a ≤ i ∧ i < b)) l ∧ Keep w w' := by
  have hE := Empty_ok n w hn
  obtain ⟨m, hm⟩ : ∃ m, (n + 63) / 64 = m := ⟨_, rfl⟩
  unfold mkl
  rw [hm] at hE ⊢
  have Hm : Hid ((n + 63) / 64 = m) := hm
  have hF1 : ∀ w1, Row w1 w.heap.size (List.replicate m 0) → _ := fun w1 h => fill_any w.heap.size m 0 a (List.replicate m 0) w1 h (by simp; omega) (W64_rep m) (by simp; omega)
  have hF2 : ∀ w1 l, l.length = m → W64 l → Row w1 w.heap.size l → _ := fun w1 l h1 h2 h => fill_any w.heap.size m b n l w1 h (by omega) h2 (by omega)
  have h1 : ¬ (a : Int) < 0 := by omega
  have h2 : ¬ (b : Int) < (a : Int) := by omega
  have h3 : ¬ (n : Int) < (b : Int) := by omega
  clear hm
  go_enter Tryd.func6, Tryd.ntmps6
  go_wp2_with (go_at_call 15; refine hE.mono ?_; rintro e w1 ⟨rfl, hr1, hk1, hs1⟩; clear hE)
  have h := hF1 w1 hr1
  rw [List.length_replicate] at h
  refine h.mono ?_
  rintro e w2 ⟨l2, rfl, hr2, hl2, hw2, hb2, hm2⟩
  go_wp2_with fail
  have h' := hF2 w2 l2 hl2 hw2 hr2
  rw [hl2] at h'
  refine h'.mono ?_
  rintro e w3 ⟨l3, rfl, hr3, hl3, hw3, hb3, hm3⟩
  have hl : l3.length = m := hl3
  go_wp2_with fail
  go_ret2
  refine ⟨l3, by rw [hl]; rfl, hr3, ⟨hl, hw3, ?_⟩, (hk1.mut hm2 (Nat.le_refl _)).mut hm3 (Nat.le_refl _)⟩
  intro i
  rw [hb3, hb2, hs_rep, Bool.false_or, ← Bool.decide_or, ← decide_not, ← Bool.decide_and, decide_eq_decide]
  omega
end Go.Proofs.YtmhgpgdekaeegaaDoor.Bi
