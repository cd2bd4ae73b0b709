import Derived.Test.YtaogjiffnebnkaaR5
import Derived.Test.YtaogjiffnebnkaaCS11
import Derived.Test.YtaogjiffnebnkaaLS11
set_option linter.unusedVariables false
set_option linter.unusedSimpArgs false
namespace Go.Proofs.Ytaogjiffnebnkaa.Cu
open Go.RowKit
set_option maxRecDepth 100000 in
theorem insertion_nil (kb : Nat) (w : World) : Calls Try.prog 105 #[.slice none 0 0, .int .i64 0, .int .i64 0, cmpF kb] w fun e w' => (∃ v, e = .returned v) ∧ w' = w := by
  go_enter Try.func105, Try.ntmps105
  go_wp2_with fail
  go_loopw [8] (fun iv wr => iv = .int .i64 1 ∧ wr = w) (fun iv _ => 0)
  case atStart => exact ⟨rfl, rfl⟩
  case round =>
    obtain ⟨rfl, rfl⟩ := hrel
    go_wp2_with fail
    go_end0
    exact ⟨⟨_, rfl⟩, rfl⟩
set_option maxRecDepth 100000 in
theorem stable_nil (kb : Nat) (w : World) : Calls Try.prog 87 #[.slice none 0 0, .int .i64 0, cmpF kb] w fun e w' => (∃ v, e = .returned v) ∧ w' = w := by
  have hi := insertion_nil kb w
  go_enter Try.func87, Try.ntmps87
  go_wp2_with fail
  go_loopw [7, 8] (fun av bv wr => av = .int .i64 0 ∧ bv = .int .i64 20 ∧ wr = w) (fun av bv _ => 0)
  case atStart => exact ⟨rfl, rfl, rfl⟩
  case round =>
    obtain ⟨rfl, rfl, rfl⟩ := hrel
    go_wp2_with (go_at_call 105; refine hi.mono ?_; rintro e w2 ⟨⟨v, rfl⟩, hw2⟩; rw [hw2])
    go_loopw [6] (fun bv ws => bv = .int .i64 20 ∧ ws = wr) (fun bv _ => 0)
    case atStart => exact ⟨rfl, rfl⟩
    case round =>
      obtain ⟨rfl, rfl⟩ := hrel
      go_wp2_with fail
      go_end0
      exact ⟨⟨_, rfl⟩, rfl⟩
set_option maxRecDepth 100000 in
theorem sortStable_nil (kb : Nat) (w : World) : Calls Try.prog 73 #[.slice none 0 0, cmpF kb] w fun e w' => (∃ v, e = .returned v) ∧ w' = w := by
  have hs := stable_nil kb w
  go_enter Try.func73, Try.ntmps73
  go_wp2_with (go_at_call 87; refine hs.mono ?_; rintro e w2 ⟨⟨v, rfl⟩, hw2⟩; rw [hw2])
  go_end0
  exact ⟨⟨_, rfl⟩, rfl⟩
set_option maxRecDepth 100000 in
theorem sortBy_nil (w : World) : Calls Try.prog 53 #[.slice none 0 0, .func (.func 54) #[] #[]] w fun e w' => (∃ v, e = .returned v) ∧ Keep w w' := by
  have k1 : Keep w (w.alloc (Obj.cells #[.func (.func 54) #[] #[]] 103)) := (Keep.refl w).alloc _
  have hs := sortStable_nil w.heap.size (w.alloc (Obj.cells #[.func (.func 54) #[] #[]] 103))
  go_enter Try.func53, Try.ntmps53
  go_wp2_with (go_at_call 73; refine hs.mono ?_; rintro e w2 ⟨⟨v, rfl⟩, hw2⟩; rw [hw2])
  go_end0
  exact ⟨⟨_, rfl⟩, k1⟩
set_option maxRecDepth 100000 in
theorem sortBy_any (g c n : Nat) (l : List It) (w : World) (hF : F64 l) (hn : l.length = n) (hl : n ≤ 17592186044416) (hA : ∃ cur : Array Value, w.heap[g]? = some (.cells cur 57 (0, 0)) ∧ cur.toList.take (l.length * 5) = UC l) :
    Calls Try.prog 53 #[.slice (some ⟨g, 0, none⟩) n c, .func (.func 54) #[] #[]] w fun e w' => (∃ v, e = .returned v) ∧ (∃ M, M.length = n ∧ srt kI M ∧ eqv kI M l ∧ ∃ cur : Array Value, w'.heap[g]? = some (.cells cur 57 (0, 0)) ∧ cur.toList.take (M.length * 5) = UC M) ∧ Oth g w w' := by
  obtain ⟨w1, hw1⟩ : ∃ w1, w.alloc (Obj.cells #[.func (.func 54) #[] #[]] 103) = w1 := ⟨_, rfl⟩
  have k1 : Keep w w1 := by rw [← hw1]; exact (Keep.refl w).alloc _
  obtain ⟨cur, h1, h2⟩ := hA
  have hg := (Array.getElem?_eq_some_iff.1 h1).1
  have hA1 : Arr w.heap.size w1 g l := by
    refine ⟨⟨cur, (k1.block g hg).trans h1, h2⟩, ?_, by omega⟩
    rw [← hw1, cell_of_row _ w.heap.size 0 _ 103 (0, 0) (heap_alloc_new w _)]; rfl
  have hs := sortStable_any w.heap.size g c n l w1 hF hn hl hA1
  replace hw1 : Hid _ := hw1
  clear hF hA1 h1 h2
  go_enter Try.func53, Try.ntmps53
  go_wp2_with (go_at_call 73; rw [hw1.out]; refine hs.mono ?_; rintro e w2 ⟨⟨v, rfl⟩, ⟨M, m1, m2, m3, m4⟩, k2⟩; replace m1 : Hid (M.length = n) := m1; replace m2 : Hid (srt kI M) := m2; replace m3 : Hid (eqv kI M l) := m3; replace m4 : Hid (Arr w.heap.size w2 g M) := m4)
  go_end0
  exact ⟨⟨_, rfl⟩, ⟨M, m1.out, m2.out, m3.out, m4.out.1⟩, ((Oth.refl g w).keep k1).trans k2⟩
end Go.Proofs.Ytaogjiffnebnkaa.Cu
namespace Go.Proofs.Ytaogjiffnebnkaa.Ls
open Go.RowKit
set_option maxRecDepth 100000 in
theorem insertion_nil (kb : Nat) (w : World) : Calls Try.prog 107 #[.slice none 0 0, .int .i64 0, .int .i64 0, cmpF kb] w fun e w' => (∃ v, e = .returned v) ∧ w' = w := by
  go_enter Try.func107, Try.ntmps107
  go_wp2_with fail
  go_loopw [8] (fun iv wr => iv = .int .i64 1 ∧ wr = w) (fun iv _ => 0)
  case atStart => exact ⟨rfl, rfl⟩
  case round =>
    obtain ⟨rfl, rfl⟩ := hrel
    go_wp2_with fail
    go_end0
    exact ⟨⟨_, rfl⟩, rfl⟩
set_option maxRecDepth 100000 in
theorem stable_nil (kb : Nat) (w : World) : Calls Try.prog 89 #[.slice none 0 0, .int .i64 0, cmpF kb] w fun e w' => (∃ v, e = .returned v) ∧ w' = w := by
  have hi := insertion_nil kb w
  go_enter Try.func89, Try.ntmps89
  go_wp2_with fail
  go_loopw [7, 8] (fun av bv wr => av = .int .i64 0 ∧ bv = .int .i64 20 ∧ wr = w) (fun av bv _ => 0)
  case atStart => exact ⟨rfl, rfl, rfl⟩
  case round =>
    obtain ⟨rfl, rfl, rfl⟩ := hrel
    go_wp2_with (go_at_call 107; refine hi.mono ?_; rintro e w2 ⟨⟨v, rfl⟩, hw2⟩; rw [hw2])
    go_loopw [6] (fun bv ws => bv = .int .i64 20 ∧ ws = wr) (fun bv _ => 0)
    case atStart => exact ⟨rfl, rfl⟩
    case round =>
      obtain ⟨rfl, rfl⟩ := hrel
      go_wp2_with fail
      go_end0
      exact ⟨⟨_, rfl⟩, rfl⟩
set_option maxRecDepth 100000 in
theorem sortStable_nil (kb : Nat) (w : World) : Calls Try.prog 76 #[.slice none 0 0, cmpF kb] w fun e w' => (∃ v, e = .returned v) ∧ w' = w := by
  have hs := stable_nil kb w
  go_enter Try.func76, Try.ntmps76
  go_wp2_with (go_at_call 89; refine hs.mono ?_; rintro e w2 ⟨⟨v, rfl⟩, hw2⟩; rw [hw2])
  go_end0
  exact ⟨⟨_, rfl⟩, rfl⟩
set_option maxRecDepth 100000 in
theorem sortBy_nil (w : World) : Calls Try.prog 56 #[.slice none 0 0, .func (.func 57) #[] #[]] w fun e w' => (∃ v, e = .returned v) ∧ Keep w w' := by
  have k1 : Keep w (w.alloc (Obj.cells #[.func (.func 57) #[] #[]] 105)) := (Keep.refl w).alloc _
  have hs := sortStable_nil w.heap.size (w.alloc (Obj.cells #[.func (.func 57) #[] #[]] 105))
  go_enter Try.func56, Try.ntmps56
  go_wp2_with (go_at_call 76; refine hs.mono ?_; rintro e w2 ⟨⟨v, rfl⟩, hw2⟩; rw [hw2])
  go_end0
  exact ⟨⟨_, rfl⟩, k1⟩
set_option maxRecDepth 100000 in
theorem sortBy_any (g c n : Nat) (l : List It) (w : World) (hF : F64 l) (hn : l.length = n) (hl : n ≤ 17592186044416) (hA : ∃ cur : Array Value, w.heap[g]? = some (.cells cur 33 (0, 0)) ∧ cur.toList.take (l.length * 4) = UL l) :
    Calls Try.prog 56 #[.slice (some ⟨g, 0, none⟩) n c, .func (.func 57) #[] #[]] w fun e w' => (∃ v, e = .returned v) ∧ (∃ M, M.length = n ∧ srt kI M ∧ eqv kI M l ∧ ∃ cur : Array Value, w'.heap[g]? = some (.cells cur 33 (0, 0)) ∧ cur.toList.take (M.length * 4) = UL M) ∧ Oth g w w' := by
  obtain ⟨w1, hw1⟩ : ∃ w1, w.alloc (Obj.cells #[.func (.func 57) #[] #[]] 105) = w1 := ⟨_, rfl⟩
  have k1 : Keep w w1 := by rw [← hw1]; exact (Keep.refl w).alloc _
  obtain ⟨cur, h1, h2⟩ := hA
  have hg := (Array.getElem?_eq_some_iff.1 h1).1
  have hA1 : Arr w.heap.size w1 g l := by
    refine ⟨⟨cur, (k1.block g hg).trans h1, h2⟩, ?_, by omega⟩
    rw [← hw1, cell_of_row _ w.heap.size 0 _ 105 (0, 0) (heap_alloc_new w _)]; rfl
  have hs := sortStable_any w.heap.size g c n l w1 hF hn hl hA1
  replace hw1 : Hid _ := hw1
  clear hF hA1 h1 h2
  go_enter Try.func56, Try.ntmps56
  go_wp2_with (go_at_call 76; rw [hw1.out]; refine hs.mono ?_; rintro e w2 ⟨⟨v, rfl⟩, ⟨M, m1, m2, m3, m4⟩, k2⟩; replace m1 : Hid (M.length = n) := m1; replace m2 : Hid (srt kI M) := m2; replace m3 : Hid (eqv kI M l) := m3; replace m4 : Hid (Arr w.heap.size w2 g M) := m4)
  go_end0
  exact ⟨⟨_, rfl⟩, ⟨M, m1.out, m2.out, m3.out, m4.out.1⟩, ((Oth.refl g w).keep k1).trans k2⟩
end Go.Proofs.Ytaogjiffnebnkaa.Ls
