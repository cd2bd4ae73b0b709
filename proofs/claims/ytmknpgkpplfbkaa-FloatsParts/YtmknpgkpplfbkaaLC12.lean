import Derived.Test.YtmknpgkpplfbkaaProg
import Derived.Test.YtmknpgkpplfbkaaLC11
import Derived.WalkKit
import Derived.WalkSpells
import Derived.WalkLawsBesides
import Derived.Laws.CopyOwn
import Derived.Deep.Draws
import Derived.Deep.QuietTactic
import Derived.BigQuiet
import Derived.Laws.MathBits
import Derived.Shelf.Small.Bits
set_option linter.unusedVariables false
set_option linter.unusedSimpArgs false
namespace Go.Proofs.Ytmknpgkpplfbkaa
open Go.RowKit Lb
/-- A quotient's variable. -/
def Box (w : World) (g : Nat) (x y z : Value) : Prop := w.heap[g]? = some (.cells #[x, y, z] 37 (0, 0))
theorem Box.keep {w w' : World} {g : Nat} {x y z : Value} (h : Box w g x y z) (k : Keep w w') : Box w' g x y z := by
  unfold Box; rw [k.block g (Array.getElem?_eq_some_iff.1 h).1]; exact h
theorem Box.cells {w : World} {g : Nat} {x y z : Value} (h : Box w g x y z) : w.cell? ⟨g, 0, none⟩ = some x ∧ w.cell? ⟨g, 1, none⟩ = some y ∧ w.cell? ⟨g, 2, none⟩ = some z := by
  refine ⟨?_, ?_, ?_⟩ <;> rw [cell_of_row w g _ _ 37 (0, 0) h] <;> rfl
theorem Box.free {w : World} {g : Nat} {x y z : Value} (h : Box w g x y z) (j : Nat) : w.frozen? ⟨g, j, none⟩ = false := frozen_of_row w g j _ 37 h
theorem Box.new (w : World) (x y z : Value) : Box (w.alloc (.cells #[x, y, z] 37)) w.heap.size x y z := heap_alloc_new w _
theorem Res.mut {B g : Nat} {w w' : World} {v : Value} {l : List Nat} (h : Res B w v l) (k : Mut g w w') (hg : g < B) : Res B w' v l := by
  rcases h with h | ⟨g', r, e, hb, hr, h1, h2⟩
  · exact .inl h
  · exact .inr ⟨g', r, e, hb, hr.mut k (by omega), h1, h2⟩
theorem NatR.mut {B g : Nat} {w w' : World} {v : Value} {n : Nat} (h : NatR B w v n) (k : Mut g w w') (hg : g < B) : NatR B w' v n := by
  obtain ⟨l, h1, h2⟩ := h; exact ⟨l, h1.mut k hg, h2⟩
set_option maxRecDepth 100000 in
set_option maxHeartbeats 800000 in
theorem Over_zero (neg : Bool) (a b : Option Addr) (ca cb : Nat) (la lb : List Nat) (w : World) (hca : la.length ≤ ca) (hcb : lb.length ≤ cb) (hla : la.length ≤ 70368744177663) (hlb : lb.length ≤ 70368744177663) (hra : Rd w a la) (hrb : Rd w b lb)
    (hb0 : nl lb = 0) :
    Calls Try.prog 16 #[.bool neg, .slice a la.length ca, .slice b lb.length cb] w fun e w' => e = .returned (.tuple #[.agg #[.bool false, .slice none 0 0, .slice none 0 0], .int .i64 11]) ∧ Keep w w' := by
  have hk : Keep w (w.alloc (Obj.cells #[Value.bool false, Value.slice none 0 0, Value.slice none 0 0] 37)) := (Keep.refl w).alloc _
  have t1 := trim_any a ca la _ hca (by omega) (hra.keep hk)
  have t2 := trim_any b cb lb _ hcb (by omega) (hrb.keep hk)
  have h0 : ((nl lb : Int) == 0) = true := by simp; omega
  clear hb0
  go_enter Try.func16, Try.ntmps16
  go_wp2_with fail
  refine t1.mono ?_
  rintro e w' ⟨rfl, rfl⟩
  go_wp2_with fail
  refine t2.mono ?_
  rintro e w' ⟨rfl, rfl⟩
  go_wp2
  exact bodyPost_ret (v := .tuple #[.agg #[.bool false, .slice none 0 0, .slice none 0 0], .int .i64 11]) (by simp [results, Try.results16, go_sem]) rfl ⟨rfl, hk⟩
end Go.Proofs.Ytmknpgkpplfbkaa
