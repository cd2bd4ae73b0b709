import Derived.Test.YtpdjpjkieafnbaaGreatDoorO4
set_option linter.unusedVariables false
set_option linter.unusedSimpArgs false
namespace Go.Proofs.YtpdjpjkieafnbaaGreatDoor.Li
open Go.RowKit Lb
/-- The numerator is grown. -/
structure OwK (w1 w2 w7 wr : World) (M : Nat) (s : Bool) (vn vd : Value) (g n d : Nat) : Prop where
  kp : Keep w1 wr
  eq : ∀ b, w2.heap.size < b → b < w7.heap.size → wr.heap[b]? = w7.heap[b]?
  sz : w7.heap.size ≤ wr.heap.size
  bx : Box wr w2.heap.size (.bool s) vn vd
  cg : wr.cell? ⟨g, n, none⟩ = some (.int .u32 9)
  at' : g < M ∨ w2.heap.size < g
  ad : AO M w2.heap.size wr vd d
theorem AO.own_in {B C : Nat} {w : World} {v : Value} {n : Nat} (h : AO B C w v n) (k : Nat) (hk : v.ownBlock = some k) : B ≤ k ∧ k < C := by
  rcases h with ⟨e, -⟩ | ⟨g, rr, e, h1, h2, -, -⟩
  · rw [e] at hk; cases hk
  · rw [e] at hk; cases hk; exact ⟨h1, h2⟩
theorem Box.set1 {w : World} {g : Nat} {x y z : Value} (h : Box w g x y z) (y' : Value) : Box (w.setCell ⟨g, 1, none⟩ y') g x y' z := by
  have h1 := heap_setCell_same w g 1 _ 54 y' h
  unfold Box
  rw [h1]
  simp
theorem Box.set2 {w : World} {g : Nat} {x y z : Value} (h : Box w g x y z) (z' : Value) : Box (w.setCell ⟨g, 2, none⟩ z') g x y z' := by
  have h1 := heap_setCell_same w g 2 _ 54 z' h
  unfold Box
  rw [h1]
  simp
theorem grow_num {w1 w2 w7 wr wB : World} {M : Nat} {s : Bool} {vn vd : Value} {g n d : Nat} (HI : OwJ w1 w2 w7 wr M s vn vd n d) (hL : w1.heap.size ≤ M ∧ M ≤ w2.heap.size) (h27 : w2.heap.size < w7.heap.size)
    (GB : (wr.alloc (.cells #[.int .u32 9] 40)).grownBy wB vn.ownBlock) (cB : wB.cell? ⟨g, n, none⟩ = some (.int .u32 9)) (loc : some g = vn.ownBlock ∨ g = wr.heap.size + 1) (V : Value) :
    Box wB w2.heap.size (.bool s) vn vd ∧ OwK w1 w2 w7 (wB.setCell ⟨w2.heap.size, 1, none⟩ V) M s V vd g n d := by
  have hown := fun k hk => HI.an.own_in k hk
  have hsz := HI.sz
  have hs1 : (wr.alloc (.cells #[.int .u32 9] 40)).heap.size = wr.heap.size + 1 := by simp
  have hB := GB.size
  rw [hs1] at hB
  have same : ∀ i, i < wr.heap.size → M ≤ i → wB.heap[i]? = wr.heap[i]? := by
    intro i h1 h2
    rw [GB.block i (by omega) (fun e => by have := hown i e.symm; omega)]
    exact ((Keep.refl wr).alloc _).block i h1
  have hat : g < M ∨ w2.heap.size < g := by
    rcases loc with h | h
    · exact .inl (hown g h.symm).2
    · right; omega
  have hne : w2.heap.size ≠ g := by omega
  have bxB : Box wB w2.heap.size (.bool s) vn vd := (same _ (by omega) hL.2).trans HI.bx
  refine ⟨bxB, ?_, ?_, ?_, bxB.set1 V, ?_, hat, ?_⟩
  · have kB : Keep w1 wB := Below.grown (HI.kp.alloc _) GB (by have := HI.kp.le; rw [hs1]; omega) (fun k hk => (hown k hk).1)
    exact kB.setCell (p := ⟨w2.heap.size, 1, none⟩) (by show w1.heap.size ≤ w2.heap.size; omega) _
  · intro b h1 h2
    rw [set_other _ _ _ _ b (by omega), same b (by omega) (by omega)]
    exact HI.eq b h1 h2
  · simp; omega
  · rw [World.cell?_setCell_far _ _ _ _ hne]
    exact cB
  · refine HI.ad.same ?_
    intro i h1 h2
    rw [set_other _ _ _ _ i (by omega)]
    exact same i (by omega) h1
/-- Both are grown. -/
structure OwL (w1 w2 w7 wr : World) (s : Bool) (vn vd : Value) (g n h d : Nat) : Prop where
  kp : Keep w1 wr
  eq : ∀ b, w2.heap.size < b → b < w7.heap.size → wr.heap[b]? = w7.heap[b]?
  sz : w7.heap.size ≤ wr.heap.size
  bx : Box wr w2.heap.size (.bool s) vn vd
  cg : wr.cell? ⟨g, n, none⟩ = some (.int .u32 9)
  ch : wr.cell? ⟨h, d, none⟩ = some (.int .u32 10)
theorem grow_den {w1 w2 w7 wr wB : World} {M : Nat} {s : Bool} {vn vd : Value} {g n h d : Nat} (HI : OwK w1 w2 w7 wr M s vn vd g n d) (hL : w1.heap.size ≤ M ∧ M ≤ w2.heap.size) (h27 : w2.heap.size < w7.heap.size)
    (GB : (wr.alloc (.cells #[.int .u32 10] 40)).grownBy wB vd.ownBlock) (cB : wB.cell? ⟨h, d, none⟩ = some (.int .u32 10)) (loc : some h = vd.ownBlock ∨ h = wr.heap.size + 1) (V : Value) :
    Box wB w2.heap.size (.bool s) vn vd ∧ OwL w1 w2 w7 (wB.setCell ⟨w2.heap.size, 2, none⟩ V) s vn V g n h d := by
  have hown := fun k hk => HI.ad.own_in k hk
  have hsz := HI.sz
  have hs1 : (wr.alloc (.cells #[.int .u32 10] 40)).heap.size = wr.heap.size + 1 := by simp
  have hB := GB.size
  rw [hs1] at hB
  have hg := block_lt_of_cell HI.cg
  have same : ∀ i, i < wr.heap.size → i < M ∨ w2.heap.size ≤ i → wB.heap[i]? = wr.heap[i]? := by
    intro i h1 h2
    rw [GB.block i (by omega) (fun e => by have := hown i e.symm; omega)]
    exact ((Keep.refl wr).alloc _).block i h1
  have hne : w2.heap.size ≠ h := by
    rcases loc with q | q
    · have := hown h q.symm; omega
    · omega
  have hne2 : w2.heap.size ≠ g := by have := HI.at'; omega
  have bxB : Box wB w2.heap.size (.bool s) vn vd := (same _ (by omega) (.inr (Nat.le_refl _))).trans HI.bx
  refine ⟨bxB, ?_, ?_, ?_, bxB.set2 V, ?_, ?_⟩
  · have kB : Keep w1 wB := Below.grown (HI.kp.alloc _) GB (by have := HI.kp.le; rw [hs1]; omega) (fun k hk => by have := (hown k hk).1; omega)
    exact kB.setCell (p := ⟨w2.heap.size, 2, none⟩) (by show w1.heap.size ≤ w2.heap.size; omega) _
  · intro b h1 h2
    rw [set_other _ _ _ _ b (by omega), same b (by omega) (.inr (by omega))]
    exact HI.eq b h1 h2
  · simp; omega
  · rw [World.cell?_setCell_far _ _ _ _ hne2, World.cell?_of_block (w := wr) (same g hg (by have := HI.at'; omega))]
    exact HI.cg
  · rw [World.cell?_setCell_far _ _ _ _ hne]
    exact cB
end Go.Proofs.YtpdjpjkieafnbaaGreatDoor.Li
