import Derived.Test.YtbpfpldahmfjaaaGreatDoorProg
import Derived.Test.YtbpfpldahmfjaaaGreatDoorLK7
import Derived.WalkKit
import Derived.WalkSpells
import Derived.WalkLawsBesides
import Derived.Laws.CopyOwn
import Derived.Deep.Draws
import Derived.Deep.QuietTactic
import Derived.BigQuiet
import Derived.Laws.MathBits
import Derived.Laws.BytesArg
import Derived.Lib.OthersKept
import Derived.Deep.RegionWith
import Derived.WalkMore
import Derived.Deep.LoopGhost
import Derived.Deep.RegionHeld3
set_option linter.unusedVariables false
set_option linter.unusedSimpArgs false
namespace Go.Proofs.YtbpfpldahmfjaaaGreatDoor.Li
open Go.RowKit Lb
set_option maxRecDepth 100000 in
set_option maxHeartbeats 800000 in
theorem Minus_form (n1 n2 : Bool) (a b c d : Option Addr) (ca cb cc cd : Nat) (la lb lc ld : List Nat) (w : World) (hA : Arg2 w a ca la b cb lb) (hB : Arg2 w c cc lc d cd ld) :
    Calls Tryz.prog 18 #[.agg #[.bool n1, .slice a la.length ca, .slice b lb.length cb], .agg #[.bool n2, .slice c lc.length cc, .slice d ld.length cd]] w fun e w' => RatF w w' e (PG n1 (!n2) (val la * val ld) (val lc * val lb)) (PN n1 (!n2) (val la * val ld) (val lc * val lb)) (val lb * val ld) := by
  obtain ⟨W, hW, B1, B2, B3, kW, hsz⟩ := lay3 w (.bool n1) (.slice a la.length ca) (.slice b lb.length cb) (.bool (!n2)) (.slice c lc.length cc) (.slice d ld.length cd) (.bool false) (.slice none 0 0) (.slice none 0 0)
  have hP := Plus_form n1 (!n2) a b c d ca cb cc cd la lb lc ld W (hA.keep kW) (hB.keep kW)
  go_enter Tryz.func18, Tryz.ntmps18
  go_wp2_with fail
  rw [← hW]
  clear hW
  refine hP.mono ?_
  rintro e wC hC
  obtain ⟨an, cn, ln, ad, cm, lm, rfl, hfin, kC⟩ := hC.box kW (show w.heap.size ≤ w.heap.size + 1 + 1 by omega) B3
  have BC := B3.keep kC
  obtain ⟨z0, z1, z2⟩ := BC.cells
  have f0 := BC.free 0
  have f1 := BC.free 1
  have f2 := BC.free 2
  clear hP hC B1 B2 B3 BC
  generalize RS (PG n1 (!n2) (val la * val ld) (val lc * val lb)) (PN n1 (!n2) (val la * val ld) (val lc * val lb)) (val lb * val ld) = rs at hfin ⊢
  generalize RE (val lb * val ld) = re at hfin ⊢
  go_wp2_with fail
  refine bodyPost_ret (v := .tuple #[.agg #[.bool rs, .slice an ln.length cn, .slice ad lm.length cm], .int .i64 re]) (by simp [results, Tryz.results18, go_sem, World.cell?_setCell_other, World.cell?_setCell_same, z0, z1, z2]) rfl (hfin _ _ _)
end Go.Proofs.YtbpfpldahmfjaaaGreatDoor.Li
