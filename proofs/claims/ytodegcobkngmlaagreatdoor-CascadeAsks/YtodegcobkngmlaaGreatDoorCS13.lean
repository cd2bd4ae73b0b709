import Derived.Test.YtodegcobkngmlaaGreatDoorProg
import Derived.Test.YtodegcobkngmlaaGreatDoorCS11
import Derived.WalkKit
import Derived.WalkSpells
import Derived.WalkLawsBesides
import Derived.Deep.Draws
import Derived.Deep.QuietTactic
import Derived.BigQuiet
import Derived.Laws.Externs
import Derived.Laws.CopyOwn
import Derived.Shelf.Abstract
import Derived.Deep.RegionLaw
import Derived.BigRegion
import Derived.Deep.RegionHeld3
import Derived.RangeFuncBox
import Derived.RangeFuncLeaves
import Derived.RangeFuncCalls
import Derived.RangeFuncRecord
import Derived.Below
import Derived.OwnWalkIn
import Derived.TacticsInMore
import Derived.LoopNIn
import Derived.LoopIn
import Derived.Sort.LoopGhostIn
import Derived.Deep.RegionWith
import Derived.Stop.RegionWithIn
import Derived.Laws.MathBits
import Derived.Maps.OwnSet
import Derived.StringKeys
import Derived.RegionTactic
import Derived.Orders
import Derived.OrdersIn
import Derived.RegionIn
import Ieee.Arith
import Derived.Laws.StructEq
import Derived.Lib.BufferWrite
import Derived.Lib.UnsafeStr
import Derived.Laws.MakeOwn
import Derived.Deep.CutBlock
import Derived.Deep.CutRange
import Derived.WalkMore
import Derived.Test.YtodegcobkngmlaaGreatDoorW3
set_option linter.unusedVariables false
set_option linter.unusedSimpArgs false
namespace Go.Proofs.YtodegcobkngmlaaGreatDoor
open Go.RowKit Go.Shelf
theorem MB_stable (base : List Int) (ts : List (Int × List Nd)) (v : List Nd → Int) : ∀ x T A B, MB base ts v x T A → (∀ g, T g → B.heap[g]? = A.heap[g]?) → MB base ts v x T B := fun x T A B h hk => ⟨h.1, (hk _ h.1).trans h.2⟩
/-- What lies behind the trees, as an iterator. -/
theorem behind_seq (w0 : World) (n : Nat) (hn : 1 ≤ n) (Be Bx : Nat) (nm : ByteArray) (fa : Option Addr) (Fn cf : Nat) (ba : Option Addr) (base : List Int) (cb : Nat) (ta : Option Addr) (ts : List (Int × List Nd)) (ct : Nat) (ax : Option Addr) (cx : Nat) (xs : List Nat) (hxl : xs.length ≤ 17592186044416) (v : List Nd → Int)
    (hN : base.length ≤ 64) (hb : RdI w0 ba base) (ht : RdT w0 ta ts) (htl : ts.length ≤ 65536) (htn : ∀ j, j < ts.length → (ts.getD j (0, [])).2.length ≤ 1759218604441)
    (ho : ∀ k, k < ts.length → ∃ q : Nat, (ts.getD k (0, [])).1 = (q : Int) ∧ q < base.length) (hrm : ∀ o, o < base.length → rm base ts o < 4611686018427387904)
    (hva : ∀ t ∈ ts, (v t.2).natAbs ≤ lg t.2) (hvv : ∀ k, k < ts.length → ((ts.getD k (0, [])).2.getD (endN (ts.getD k (0, [])).2 xs) nd0).vl = v (ts.getD k (0, [])).2) (hE : ∀ k, k < ts.length → shE (ts.getD k (0, [])).2 = 0)
    (hft : ∀ k, k < ts.length → ∀ i, i < (ts.getD k (0, [])).2.length → (((ts.getD k (0, [])).2.getD i nd0).kd = 2 ∨ ((ts.getD k (0, [])).2.getD i nd0).kd = 3) → 0 ≤ ((ts.getD k (0, [])).2.getD i nd0).ft ∧ ((ts.getD k (0, [])).2.getD i nd0).ft < (xs.length : Int))
    (w : World) (hBl : w.heap[Be]? = some (.cells (ev nm fa Fn cf (base.length : Int) ba base.length cb ta ts.length ct) 26 (0, 0))) (hBx : w.heap[Bx]? = some (.cells #[.slice ax xs.length cx] 27 (0, 0))) (hBn : w0.heap.size ≤ Be) (hBm : w0.heap.size ≤ Bx) (hnW : Keep w0 w) (hxd : RdF w0 ax xs) :
    SeqM n Tryz.prog 19 #[.pointer (some ⟨Be, 0, none⟩), .pointer (some ⟨Bx, 0, none⟩)] (yB base.length) w0.heap.size (fun g => g = Be ∨ g = Bx) (fun l => ∃ g, l = (List.range (ts.length + 1)).map fun k => (k, g)) (fun l => ∃ g k, k ≤ ts.length ∧ l = (List.range (k + 1)).map fun k => (k, g)) (MB base ts v) (ts.length + 1) w := by
  intro y J Jx W hW hJ1 hY h0
  have kW : Keep w W := hW
  refine (behinds_in w0 n hn y Be Bx nm fa Fn cf ba base cb ta ts ct ax cx xs hxl J Jx v hN hb ht htl htn ho hrm hva hvv hE hft hJ1 hY W (kW.at hBl) (kW.at hBx) hBn hBm (hnW.trans kW) hxd h0).mono ?_
  rintro e W' ⟨he, ⟨g, T, h⟩ | ⟨g, k, hk, h⟩⟩
  · exact ⟨he, .inl ⟨_, T, ⟨g, rfl⟩, h⟩⟩
  · exact ⟨he, .inr ⟨_, ⟨g, k, hk, rfl⟩, h⟩⟩
end Go.Proofs.YtodegcobkngmlaaGreatDoor
set_option linter.unusedVariables false
set_option linter.unusedSimpArgs false
namespace Go.Proofs.YtodegcobkngmlaaGreatDoor
open Go.RowKit Go.Shelf
/-- What a tree says of a vector. -/
def vX (xs : List Nat) (L : List Nd) : Int := (L.getD (endN L xs) nd0).vl
/-- What is known of a right ensemble and a vector of its length. -/
structure RtE (N : Int) (base : List Int) (ts : List (Int × List Nd)) (xs : List Nat) : Prop where
  n1 : 1 ≤ base.length
  nl : base.length ≤ 64
  nb : (base.length : Int) = N
  tl : ts.length ≤ 65536
  tn : ∀ j, j < ts.length → (ts.getD j (0, [])).2.length ≤ 1759218604441
  ho : ∀ k, k < ts.length → ∃ q : Nat, (ts.getD k (0, [])).1 = (q : Int) ∧ q < base.length
  rm : ∀ o, o < base.length → rm base ts o < 4611686018427387904
  va : ∀ t ∈ ts, (vX xs t.2).natAbs ≤ lg t.2
  sv : ∀ t ∈ ts, (sp t.2).1 ≤ vX xs t.2 ∧ vX xs t.2 ≤ (sp t.2).2
  se : ∀ k, k < ts.length → shE (ts.getD k (0, [])).2 = 0
  ft : ∀ k, k < ts.length → ∀ i, i < (ts.getD k (0, [])).2.length → (((ts.getD k (0, [])).2.getD i nd0).kd = 2 ∨ ((ts.getD k (0, [])).2.getD i nd0).kd = 3) → 0 ≤ ((ts.getD k (0, [])).2.getD i nd0).ft ∧ ((ts.getD k (0, [])).2.getD i nd0).ft < (xs.length : Int)
theorem end_leaf {L : List Nd} {xs : List Nat} (h : shE L = 0) : endN L xs < L.length ∧ (L.getD (endN L xs) nd0).kd = 1 := by
  obtain ⟨l, -, h2, h3, -⟩ := way_last (xs := xs) h
  have hr := (shE_rgt h).2 _ h3
  have hk : ¬ ((L.getD (endN L xs) nd0).kd = 2 ∨ (L.getD (endN L xs) nd0).kd = 3) := by
    have := h2
    simp only [shp] at this
    exact of_decide_eq_false this
  unfold rightB at hr
  by_cases h1 : (L.getD (endN L xs) nd0).kd = 1
  · exact ⟨h3, h1⟩
  · rw [if_neg h1, if_neg (fun q => hk (.inl q)), if_neg (fun q => hk (.inr q))] at hr
    cases hr
theorem rtE {nm : ByteArray} {fs : List ByteArray} {N : Int} {base : List Int} {ts : List (Int × List Nd)} {xs : List Nat} (h : (chB nm fs N base ts).1 = 0) (hx : xs.length = fs.length) : RtE N base ts xs := by
  obtain ⟨-, ⟨h1, h2⟩, h3, h4, -, h5, h6⟩ := chB_ok h
  have hE : ∀ k, k < ts.length → shE (ts.getD k (0, [])).2 = 0 := fun k hk => (trB_ok (h5 k hk)).2.2.1
  have hm : ∀ t ∈ ts, shE t.2 = 0 := by
    intro t ht
    obtain ⟨k, hk, rfl⟩ := List.getElem_of_mem ht
    have := hE k hk
    simpa [List.getD, hk] using this
  refine ⟨by omega, by omega, h3, h4, fun j hj => by have := (trB_ok (h5 j hj)).2.1; omega, ?_, ?_, fun t ht => lf_le (hm t ht), fun t ht => ?_, hE, ?_⟩
  · intro k hk
    obtain ⟨⟨q1, q2⟩, -⟩ := trB_ok (h5 k hk)
    exact ⟨(ts.getD k (0, [])).1.toNat, by omega, by omega⟩
  · intro o ho
    exact ouF_all _ _ h6 o (by omega) (by omega)
  · obtain ⟨q1, q2⟩ := end_leaf (xs := xs) (hm t ht)
    exact sp_leaf q1 q2
  · intro k hk i hi hkd
    have := (trB_ok (h5 k hk)).2.2.2 i hi hkd
    omega
theorem results_c2 {fn : Func} {t u : Tmp} (h : fn.results = #[.cell t 40, .cell u 28]) (tmps : Array Value) (w : World) (g k : Nat) (a : Option Addr) (l c : Nat) (i : Int) (hp : tmps.getD t undef = .pointer (some ⟨g, 0, none⟩)) (hq : tmps.getD u undef = .pointer (some ⟨k, 0, none⟩))
    (h1 : w.cell? ⟨g, 0, none⟩ = some (.slice a l c)) (h2 : w.cell? ⟨k, 0, none⟩ = some (.int .i64 i)) :
    (results fn tmps).run Tryz.prog w = .ok (.tuple #[.slice a l c, .int .i64 i]) w := by
  have hp' : (tmps[t]?).getD undef = .pointer (some ⟨g, 0, none⟩) := by simpa using hp
  have hq' : (tmps[u]?).getD undef = .pointer (some ⟨k, 0, none⟩) := by simpa using hq
  simp [results, h, hp, hp', hq, hq', go_sem, h1, h2]
end Go.Proofs.YtodegcobkngmlaaGreatDoor
