import Derived.Test.YtpdjpjkieafnbaaDoorProg
import Derived.Test.YtpdjpjkieafnbaaDoorLF6
import Derived.WalkKit
import Derived.WalkSpells
import Derived.WalkLawsBesides
import Derived.Laws.CopyOwn
import Derived.Deep.Draws
import Derived.Deep.QuietTactic
import Derived.BigQuiet
import Derived.Laws.MathBits
import Derived.Laws.BytesArg
import Derived.Lib.OthersKept
import Derived.Deep.RegionWith
import Derived.WalkMore
import Derived.Deep.LoopGhost
import Derived.Deep.RegionLaw
set_option linter.unusedVariables false
set_option linter.unusedSimpArgs false
namespace Go.Proofs.YtpdjpjkieafnbaaDoor.Li
open Go.RowKit Lb
/-- Powers as an argument: so many of them, readable. -/
def Pw (w : World) (av : Option Addr) (k : Nat) : Prop := ∀ i, i < k → ∃ g gx cx lx, av = some ⟨g, 0, none⟩ ∧ w.cell? ⟨g, i, none⟩ = some (.slice (some ⟨gx, 0, none⟩) (List.length lx) cx) ∧ lx.length ≤ cx ∧ Rd w (some ⟨gx, 0, none⟩) lx ∧ Lim lx ∧ Nrm lx ∧ val lx = 10 ^ (288 * 2 ^ i)
theorem Pw.keep {w w' : World} {av : Option Addr} {k : Nat} (h : Pw w av k) (hk : Keep w w') : Pw w' av k := by
  intro i hi
  obtain ⟨g, gx, cx, lx, e, hc, hl, hr, r⟩ := h i hi
  exact ⟨g, gx, cx, lx, e, hk.cell hc, hl, hr.keep hk, r⟩
theorem Pw.less {w : World} {av : Option Addr} {k j : Nat} (h : Pw w av k) (hj : j ≤ k) : Pw w av j := fun i hi => h i (by omega)
theorem Pows.pw {B : Nat} {w : World} {av : Option Addr} {c : Nat} {vs : List Value} (ho : OwnP B w (.slice av vs.length c) vs) (h : Pows B w vs) : Pw w av vs.length := by
  intro i hi
  obtain ⟨a, c', e, -, hcell⟩ := ho.shape
  simp only [Value.slice.injEq] at e
  obtain ⟨rfl, -, rfl⟩ := e
  obtain ⟨x, hx⟩ : ∃ x, vs[i]? = some x := ⟨_, List.getElem?_eq_getElem hi⟩
  obtain ⟨g, rfl, hc⟩ := hcell i x hx
  obtain ⟨gx, rx, lx, rfl, hgx, hrx, hlrx, htx, hrlx, hmrx, hmlx, hnlx, hvlx⟩ := h i x hx
  refine ⟨g, gx, rx.length, lx, rfl, hc, hlrx, ?_, hmlx, hnlx, hvlx⟩
  have := hrx.rd 0 lx.length (by omega)
  rw [List.drop_zero, htx] at this
  exact this
end Go.Proofs.YtpdjpjkieafnbaaDoor.Li
set_option linter.unusedVariables false
set_option linter.unusedSimpArgs false
namespace Go.Proofs.YtpdjpjkieafnbaaDoor.Li
open Go.RowKit Lb
set_option maxRecDepth 100000 in
theorem slice70_to (wx : World) (b n c k : Nat) (hk : k ≤ c) : (Instr.slice 50 (.slice (some ⟨b, 0, none⟩) n c) none (some (.int .i64 (k : Nat))) none).run Tryd.prog wx = .ok (.slice (some ⟨b, 0, none⟩) k c) wx := by
  rw [run_slice_h (P := Tryd.prog) wx 50 (some ⟨b, 0, none⟩) n c Tryd.underlying50 .i64 k (by omega) (by omega)]
  have e2 : (sizeOf (Tryd.prog.elem 50)).run Tryd.prog wx = .ok 1 wx := by kernel_rfl
  rw [e2]
  simp [Result.andThen, sliced, Addr.add]
end Go.Proofs.YtpdjpjkieafnbaaDoor.Li
set_option linter.unusedVariables false
set_option linter.unusedSimpArgs false
namespace Go.Proofs.YtpdjpjkieafnbaaDoor.Li
open Go.RowKit Lb
theorem dw_two : ∀ (j h v : Nat), dw (h + j) v = dw h (v / 10 ^ j) ++ dw j v
  | 0, h, v => by simp [dw]
  | j + 1, h, v => by
    rw [← Nat.add_assoc, dw, dw_two j h (v / 10), dw, Nat.div_div_eq_div_mul, Nat.pow_succ, Nat.mul_comm 10, List.append_assoc]
theorem dw_mod : ∀ (j v : Nat), dw j (v % 10 ^ j) = dw j v
  | 0, v => by simp [dw]
  | j + 1, v => by
    have h1 : v % 10 ^ (j + 1) / 10 = v / 10 % 10 ^ j := by
      rw [Nat.pow_succ, Nat.mul_comm, Nat.mod_mul_right_div_self]
    have h2 : v % 10 ^ (j + 1) % 10 = v % 10 := by
      rw [Nat.pow_succ]
      exact Nat.mod_mul_left_mod v (10 ^ j) 10
    rw [dw, dw, h1, h2, dw_mod j (v / 10)]
/-- The digits of the two parts of a halved number. -/
theorem dw_halves (h v : Nat) : dw (2 * h) v = dw h (v / 10 ^ h) ++ dw h (v % 10 ^ h) := by
  rw [show 2 * h = h + h by omega, dw_two, dw_mod]
end Go.Proofs.YtpdjpjkieafnbaaDoor.Li
