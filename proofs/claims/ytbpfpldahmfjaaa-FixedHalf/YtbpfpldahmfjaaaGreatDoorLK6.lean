import Derived.Test.YtbpfpldahmfjaaaGreatDoorProg
import Derived.Test.YtbpfpldahmfjaaaGreatDoorLK4
import Derived.Test.YtbpfpldahmfjaaaGreatDoorLD6
import Derived.WalkKit
import Derived.WalkSpells
import Derived.WalkLawsBesides
import Derived.Laws.CopyOwn
import Derived.Deep.Draws
import Derived.Deep.QuietTactic
import Derived.BigQuiet
import Derived.Laws.MathBits
import Derived.Laws.BytesArg
import Derived.Lib.OthersKept
import Derived.Deep.RegionWith
import Derived.WalkMore
import Derived.Deep.LoopGhost
import Derived.Deep.RegionHeld3
set_option linter.unusedVariables false
set_option linter.unusedSimpArgs false
namespace Go.Proofs.YtbpfpldahmfjaaaGreatDoor.Li
open Go.RowKit Lb
set_option maxRecDepth 100000 in
set_option maxHeartbeats 800000 in
theorem crossed_any (n1 n2 : Bool) (a b c d : Option Addr) (ca cb cc cd : Nat) (la lb lc ld : List Nat) (w : World) (hA : Arg2 w a ca la b cb lb) (hB : Arg2 w c cc lc d cd ld) :
    Calls Tryz.prog 37 #[.agg #[.bool n1, .slice a la.length ca, .slice b lb.length cb], .agg #[.bool n2, .slice c lc.length cc, .slice d ld.length cd]] w fun e w' => ∃ vA vB, e = .returned (.tuple #[vA, vB]) ∧ NatR w.heap.size w' vA (val la * val ld) ∧ NatR w.heap.size w' vB (val lc * val lb) ∧ Keep w w' := by
  obtain ⟨W, hW, B1, B2, kW⟩ := lay2 w (.bool n1) (.slice a la.length ca) (.slice b lb.length cb) (.bool n2) (.slice c lc.length cc) (.slice d ld.length cd)
  have M1 := fun wx (hk : Keep w wx) => Mul_any a d ca cd la ld wx hA.hca hB.hcb (by have := hA.hla; omega) (by have := hB.hlb; omega) (hA.hra.keep hk) (hB.hrb.keep hk) hA.hma hB.hmb
  have M2 := fun wx (hk : Keep w wx) => Mul_any c b cc cb lc lb wx hB.hca hA.hcb (by have := hB.hla; omega) (by have := hA.hlb; omega) (hB.hra.keep hk) (hA.hrb.keep hk) hB.hma hA.hmb
  go_enter Tryz.func37, Tryz.ntmps37
  go_wp2_with fail
  rw [← hW]
  clear hW
  obtain ⟨x0, x1, x2⟩ := B1.cells
  obtain ⟨x3, x4, x5⟩ := B2.cells
  have kd : Keep w W.drew := kW.drew
  obtain ⟨g, hg⟩ : ∃ g, w.heap.size = g := ⟨_, rfl⟩
  have hgl : Hid (w.heap.size = g) := hg
  rw [hg] at x0 x1 x2 x3 x4 x5
  rw [hg]
  clear hg B1 B2
  go_region_held3 (fun w' => w'.cell? ⟨g, 1, none⟩ = some (Value.slice a la.length ca) ∧ w'.cell? ⟨g, 2, none⟩ = some (Value.slice b lb.length cb) ∧ w'.cell? ⟨g + 1, 1, none⟩ = some (Value.slice c lc.length cc) ∧ w'.cell? ⟨g + 1, 2, none⟩ = some (Value.slice d ld.length cd)) (go_keep) (first
    | (go_at_call_of 31 (Value.slice a la.length ca); refine (M1 _ ?_).mono ?_; exact kd; rintro e wA ⟨vA, rfl, nA, kA⟩; have nA' := nA.natR; obtain ⟨aA, cA, lA, rfl, -⟩ := nA.natR.shape; have k1 := kd.trans kA; have s1 := Keep.cell kA x1; have s2 := Keep.cell kA x2; have s4 := Keep.cell kA x4; have s5 := Keep.cell kA x5)
    | (go_at_call_of 31 (Value.slice c lc.length cc); refine (M2 _ ?_).mono ?_; exact k1; rintro e wB ⟨vB, rfl, nB, kB⟩; have nB' := nB.natR; obtain ⟨aB, cB, lB, rfl, -⟩ := nB.natR.shape; have k2 := k1.trans kB; have t1 := Keep.cell kB s1; have t2 := Keep.cell kB s2; have t4 := Keep.cell kB s4; have t5 := Keep.cell kB s5))
  go_simp
  go_wp2_with fail
  go_ret2
  exact ⟨_, _, rfl, (nA'.keep kB).mono kd.le, nB'.mono k1.le, k2⟩
end Go.Proofs.YtbpfpldahmfjaaaGreatDoor.Li
