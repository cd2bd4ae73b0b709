import Derived.Test.YtodegcobkngmlaaGreatDoorProg
import Derived.Test.YtodegcobkngmlaaGreatDoorCM2
import Derived.WalkKit
import Derived.WalkSpells
import Derived.WalkLawsBesides
import Derived.Deep.Draws
import Derived.Deep.QuietTactic
import Derived.BigQuiet
import Derived.Laws.Externs
import Derived.Laws.CopyOwn
import Derived.Shelf.Abstract
import Derived.Deep.RegionLaw
import Derived.BigRegion
import Derived.Deep.RegionHeld3
import Derived.RangeFuncBox
import Derived.RangeFuncLeaves
import Derived.RangeFuncCalls
import Derived.RangeFuncRecord
import Derived.Below
import Derived.OwnWalkIn
import Derived.TacticsInMore
import Derived.LoopNIn
import Derived.LoopIn
import Derived.Sort.LoopGhostIn
import Derived.Deep.RegionWith
import Derived.Stop.RegionWithIn
import Derived.Laws.MathBits
import Derived.Maps.OwnSet
import Derived.StringKeys
import Derived.RegionTactic
import Derived.Orders
import Derived.OrdersIn
import Derived.RegionIn
import Ieee.Arith
import Derived.Laws.StructEq
import Derived.Lib.BufferWrite
import Derived.Lib.UnsafeStr
import Derived.Laws.MakeOwn
import Derived.Deep.CutBlock
import Derived.Deep.CutRange
import Derived.WalkMore
set_option linter.unusedVariables false
set_option linter.unusedSimpArgs false
namespace Go.Proofs.YtodegcobkngmlaaGreatDoor
open Go.RowKit Go.Shelf
attribute [local go_sem] Oper.semAt_some
/-- That a limit is decided behind so many trees. -/
def dcB (base : List Int) (ts : List (Int × List Nd)) (v : List Nd → Int) (o : Nat) (lim : Int) (k : Nat) : Prop := lim < ((beL base ts v k).getD o (0, 0)).1 ∨ ((beL base ts v k).getD o (0, 0)).2 ≤ lim
/-- Two boxes of a loop over an iterator. -/
structure KpC (w7 : World) (p T1 T2 : Nat) (x y : Value) (T : Nat → Prop) (W : World) : Prop where
  be : Keep w7 W
  tb : ∀ g, T g → p + 2 ≤ g
  b1 : W.heap[p]? = some (.cells #[x] T1 (0, 0))
  b2 : W.heap[p + 1]? = some (.cells #[y] T2 (0, 0))
  sz : p + 4 ≤ W.heap.size
theorem KpC.st {w7 : World} {p T1 T2 : Nat} {x y : Value} {T : Nat → Prop} {A B : World} (hp : w7.heap.size = p) (h : KpC w7 p T1 T2 x y T A) (hst : Stp T A B) : KpC w7 p T1 T2 x y (more T A B) B := by
  obtain ⟨h1, h2, h3, h4, h5⟩ := h
  have hz := hst.size
  have kp : ∀ g, g < p + 2 → B.heap[g]? = A.heap[g]? := fun g hg => hst.block g (by omega) (fun q => by have := h2 g q; omega)
  refine ⟨⟨hst.os.trans h1.os, hst.tape.trans h1.tape, hst.output.trans h1.output, by omega, fun g hg => (kp g (by omega)).trans (h1.block g hg)⟩, ?_, (kp _ (by omega)).trans h3, (kp _ (by omega)).trans h4, by omega⟩
  rintro g (q | q)
  · exact h2 g q
  · omega
theorem KpC.put {w7 : World} {p T1 T2 : Nat} {x y : Value} {T : Nat → Prop} {A : World} {r : Nat} {o' : Obj} (hp : w7.heap.size = p) (h : KpC w7 p T1 T2 x y T A) (h1 : p + 2 ≤ r) : KpC w7 p T1 T2 x y T (A.putObj r o') := by
  obtain ⟨q1, q2, q3, q4, q5⟩ := h
  have kp : ∀ g, g < p + 2 → (A.putObj r o').heap[g]? = A.heap[g]? := fun g hg => World.putObj_heap_other (by omega)
  exact ⟨put_keep q1 (by omega), q2, (kp _ (by omega)).trans q3, (kp _ (by omega)).trans q4, by simpa using q5⟩
theorem wpIn_to {F : Fence} {n : Nat} {P : Program} {c : Code} {Q : Exit → Act → World → Prop} {a : Act} {w : World} (A : Act) (Wd : World) (h1 : c.wpIn F n P (fun e a' w' => e = .normal ∧ a' = A ∧ w' = Wd) a w) (h2 : Q .normal A Wd) : c.wpIn F n P Q a w :=
  wpIn_mono h1 (by rintro e a' w' ⟨rfl, rfl, rfl⟩; exact h2)
set_option maxRecDepth 100000 in
set_option maxHeartbeats 2000000 in
theorem Above_in (f : Nat) (hf : 3 ≤ f) (nm : ByteArray) (fa : Option Addr) (fs : List ByteArray) (cf : Nat) (N : Int) (ba : Option Addr) (base : List Int) (cb : Nat) (ta : Option Addr) (ts : List (Int × List Nd)) (ct : Nat) (ax : Option Addr) (xs : List Nat) (cx : Nat) (o : Nat) (lim : Int) (w : World) (h : EnA w nm fa fs ba base ta ts) (hx : RdF w ax xs) (he : exE nm fs N base ts xs.length = 0) (R : RtE N base ts xs) (hxl : xs.length ≤ 17592186044416) (hoN : (o : Int) < N) :
    CallsIn Fence.wide f Tryz.prog 4 #[.agg (ev nm fa fs.length cf N ba base.length cb ta ts.length ct), .slice ax xs.length cx, .int .i64 (o : Int), .int .i64 lim] w fun e w' => Keep w w' ∧ ∃ k, k ≤ ts.length ∧ e = .returned (.tuple #[.bool (decide (lim < ((beL base ts (vX xs) k).getD o (0, 0)).1)), .int .i64 (k : Int), .int .i64 0]) ∧ (dcB base ts (vX xs) o lim k ∨ k = ts.length) ∧ ∀ j, j < k → ¬ dcB base ts (vX xs) o lim j := by
  have h1 : 1 ≤ f := by omega
  obtain ⟨w4, hw4, k04, s4, b0, b1, b2, b4⟩ := boxes4 w (ev nm fa fs.length cf N ba base.length cb ta ts.length ct) (.int .i64 (o : Int)) (.int .i64 lim) (.slice ax xs.length cx) 26 3 2 27
  have hX := errorOf_any nm fa fs cf N ba base cb ta ts ct (w.heap.size + 1 + 1 + 1) 1 xs.length cx ax w4 (h.keep k04) (cells1 b4).1
  have hX2 : Calls Tryz.prog 9 #[.agg (ev nm fa fs.length cf N ba base.length cb ta ts.length ct), .slice (some ⟨w.heap.size + 1 + 1 + 1, 0, none⟩) 1 1] w4 fun e w' => e = .returned (.int .i64 (exE nm fs N base ts xs.length)) ∧ Keep w4 w' := hX
  clear hX
  rw [he] at hX2
  have hO := fun wx => isOutput_any nm fa fs.length cf N ba base.length cb ta ts.length ct (o : Int) wx
  rw [decide_eq_true (show 0 ≤ (o : Int) ∧ (o : Int) < N from ⟨by omega, hoN⟩)] at hO
  obtain ⟨m, hm⟩ : ∃ m, xs.length = m := ⟨_, rfl⟩
  have hmH : Hid (xs.length = m) := hm
  have hbH : Hid ((base.length : Int) = N) := R.nb
  have hob : Hid (o < base.length) := by have := R.nb; show _ < _; omega
  rw [hm] at hw4 ⊢
  clear hm
  refine callsIn_of_wp_marks Tryz.func4 rfl trivial ?_ rfl
  simp only [Tryz.ntmps4, List.size_toArray, List.length_cons, List.length_nil, Nat.reduceAdd, Nat.reduceSub, Array.replicate_succ, Array.replicate_zero, List.push_toArray, List.append_toArray, List.nil_append, List.cons_append]
  gi_wp2_with (first | rw [hw4] | (refine ⟨trivial, ?_⟩; gi_at_call 9; refine (callsIn_wide.2 hX2).mono ?_; rintro e w6 ⟨rfl, k6⟩; obtain ⟨y0, y1, y2, y3, y4⟩ := cells5 (k6.at b0); have y5 := (cells1 (k6.at b1)).1) | (refine ⟨trivial, ?_⟩; gi_at_call 10; refine (callsIn_wide.2 (hO _)).mono ?_; rintro e w7 ⟨rfl, k7⟩; obtain ⟨wB, hwB, kB, sB, bB1, bB2⟩ := boxes2 w7 #[.bool false] #[.int .i64 0] 4 3; obtain ⟨r1, r2, wS, hwS, bS1, bS2, oS, sS, kS⟩ := put11 bB1 bB2 (by omega) (.bool false) (.int .i64 0); obtain ⟨r3, r4⟩ := cells1 bB1; have kS7 := kS w7 kB (by omega) (by omega); obtain ⟨v0, v1, v2, v3, v4⟩ := cells5 (kS7.at (k7.at (k6.at b0))); clear y0 y1 y2 y3 y4 y5) | (refine ⟨trivial, ?_⟩; gi_at_call 11; refine (behind_in (f - 1) _ _ _ _ _).mono ?_; rintro e w' ⟨rfl, rfl⟩))
  obtain ⟨w9, hw9, k9, s9, tA, tX⟩ := boxes2 wS #[.string nm, .slice fa fs.length cf, .int .i64 N, .slice ba base.length cb, .slice ta ts.length ct] #[.slice ax m cx] 26 27
  rw [hw9]
  clear hw9 hwB hwS hw4 hX2 hO v0 v1 v2 v3 v4 r1 r2 r3 r4 kS oS bB1 bB2 kB
  rw [sB] at sS
  clear sB
  have k07 : Keep w w7 := (k04.trans k6).trans k7
  have c1 := k7.at (k6.at b1)
  have c2 := k7.at (k6.at b2)
  obtain ⟨p, hp⟩ : ∃ p, w7.heap.size = p := ⟨_, rfl⟩
  rw [hp] at sS bS1 bS2 ⊢
  have e9 : w9.heap.size = p + 4 := by omega
  rw [sS] at tX tA
  have z7 : w.heap.size + 4 ≤ p := by have := k6.le; have := k7.le; omega
  have bC1 := k9.at bS1
  have bC2 := k9.at bS2
  have k79 : Keep w7 w9 := kS7.trans k9
  clear b0 b1 b2 b4 k6 k7 k04 kS7 k9 bS1 bS2 s4 s9 sS
  have hEn := h.keep k07
  have hsq := behind_seq w7 (f - 1) (by omega) (p + 2) (p + 2 + 1) nm fa fs.length cf ba base cb ta ts ct ax cx xs hxl (vX xs) R.nl hEn.er.rb hEn.er.rt R.tl R.tn R.ho R.rm R.va (fun _ _ => rfl) R.se R.ft w9 (by rw [R.nb]; exact tA) (by rw [hmH.out]; exact tX) (by omega) (by omega) k79 (hx.keep k07)
  refine wp_rangeM h1 (gf := 19) (lb := #[.pointer (some ⟨p + 2, 0, none⟩), .pointer (some ⟨p + 2 + 1, 0, none⟩)]) rfl (enters_of Tryz.func19 (by kernel_rfl) rfl)
    hsq (MB_stable _ _ _) (Below.refl _ _) (fun _ => rfl) (by omega) (fun g hg => by omega)
    (fun pre T W => ∃ b k, KpC w7 p 4 3 (.bool b) (.int .i64 ((k : Nat) : Int)) T W ∧ (∀ x ∈ pre, ¬ dcB base ts (vX xs) o lim x.1) ∧ (pre ≠ [] → (∃ g, pre.getLast? = some (k, g)) ∧ b = decide (lim < ((beL base ts (vX xs) k).getD o (0, 0)).1)))
    (fun c pre W => c = .exit 0 ∧ ∃ b k g, W.heap[p]? = some (.cells #[.bool b] 4 (0, 0)) ∧ W.heap[p + 1]? = some (.cells #[.int .i64 ((k : Nat) : Int)] 3 (0, 0)) ∧ Keep w7 W ∧ p + 2 ≤ W.heap.size ∧ pre.getLast? = some (k, g) ∧ b = decide (lim < ((beL base ts (vX xs) k).getD o (0, 0)).1) ∧ dcB base ts (vX xs) o lim k ∧ ∀ x ∈ pre.dropLast, ¬ dcB base ts (vX xs) o lim x.1)
    ?i1 ?i2 ?ix2 ?start ?a1 ?assign ?body ?done ?stop
  case i1 =>
    rintro pre T A B ⟨b, k, q1, q2, q3⟩ hst
    exact ⟨b, k, q1.st hp hst, q2, q3⟩
  case i2 =>
    rintro pre T A r o' ⟨b, k, q1, q2, q3⟩ r1 r2 r3
    exact ⟨b, k, q1.put hp (by omega), q2, q3⟩
  case assign =>
    intro l x W K hK
    gi_wp2
    exact hK
  case start =>
    intro W hst
    have kp : ∀ g, g < w9.heap.size → W.heap[g]? = w9.heap[g]? := fun g hg => hst.block g hg (fun h => h)
    refine ⟨false, 0, ⟨⟨hst.os.trans k79.os, hst.tape.trans k79.tape, hst.output.trans k79.output, by have := hst.size; have := k79.size; omega, fun g hg => (kp g (by omega)).trans (k79.block g hg)⟩, fun g hg => by omega, (kp _ (by omega)).trans bC1, (kp _ (by omega)).trans bC2, by have := hst.size; omega⟩, by simp, fun h => absurd rfl h⟩
  case ix2 =>
    rintro c pre A r o' ⟨rfl, b, k, g, q1, q2, q3, q4, q5⟩ r1 r2 r3
    have kp : ∀ j, j < p + 2 → (A.putObj r o').heap[j]? = A.heap[j]? := fun j hj => World.putObj_heap_other (by omega)
    exact ⟨rfl, b, k, g, (kp _ (by omega)).trans q1, (kp _ (by omega)).trans q2, put_keep q3 (by omega), by simpa using q4, q5⟩
  case body =>
    rintro l pre ⟨k, g⟩ T W ⟨b, k', hC, hpre, hlast⟩ hM hpl hT hsz
    clear hsq tA tX bC1 bC2 k79 hEn h hx R he hxl
    have kW : Keep w7 W := hC.be
    have d1 := (cells1 (kW.at c1)).1
    have d2 := (cells1 (kW.at c2)).1
    obtain ⟨hTg, hg⟩ := hM
    replace hTg : T g := hTg
    replace hg : W.heap[g]? = some (.cells (VB (beL base ts (vX xs) k)).toArray 42 (0, 0)) := hg
    have hgT := hC.tb g hTg
    have hll := beL_len base ts (vX xs) k
    have y0 : W.cell? ⟨g, o * 2, none⟩ = some (.int .i64 ((beL base ts (vX xs) k).getD o (0, 0)).1) := by rw [cell_of_row _ _ _ _ 42 (0, 0) hg]; simpa using VB_lo (beL base ts (vX xs) k) o (by rw [hll]; exact hob.out)
    have y1 : W.cell? ⟨g, o * 2 + 1, none⟩ = some (.int .i64 ((beL base ts (vX xs) k).getD o (0, 0)).2) := by rw [cell_of_row _ _ _ _ 42 (0, 0) hg]; simpa using VB_hi (beL base ts (vX xs) k) o (by rw [hll]; exact hob.out)
    obtain ⟨⟨lo, hi⟩, hlh⟩ : ∃ ab, (beL base ts (vX xs) k).getD o (0, 0) = ab := ⟨_, rfl⟩
    rw [hlh] at y0 y1
    replace y0 : W.cell? ⟨g, o * 2, none⟩ = some (.int .i64 lo) := y0
    replace y1 : W.cell? ⟨g, o * 2 + 1, none⟩ = some (.int .i64 hi) := y1
    have hD : Hid (dcB base ts (vX xs) o lim k ↔ (lim < lo ∨ hi ≤ lim)) := by
      show _ ↔ _
      unfold dcB
      rw [hlh]
    have HLH : Hid ((beL base ts (vX xs) k).getD o (0, 0) = (lo, hi)) := hlh
    obtain ⟨p1, p2, wz, hwz, q1, q2, q3, q4, q5⟩ := put11 hC.b1 hC.b2 (by omega) (.bool (decide (lim < lo))) (.int .i64 ((k : Nat) : Int))
    obtain ⟨e1, e2⟩ := cells1 hC.b1
    have hoc : (o : Int) < (base.length : Int) := by have := hob.out; omega
    clear hlh hlast hll
    replace hpre : Hid _ := hpre
    replace q3 : Hid _ := q3
    replace q5 : Hid _ := q5
    replace hT : Hid _ := hT
    simp only [yB]
    generalize Value.agg (ev nm fa fs.length cf N ba base.length cb ta ts.length ct) = V1
    generalize Value.agg #[Value.string nm, Value.slice fa fs.length cf, Value.int IntKind.i64 N, Value.slice ba base.length cb, Value.slice ta ts.length ct] = V2
    gi_wp2
    apply wpIn_to
    · gi_region
      all_goals exact ⟨rfl, rfl, rfl⟩
    have kz : Keep w7 wz.drew := (q5.out w7 kW (by omega) (by omega)).drew
    obtain ⟨W3, hW3⟩ : ∃ W3, wz.drew = W3 := ⟨_, rfl⟩
    have hh3 : ∀ j : Nat, W3.heap[j]? = wz.heap[j]? := fun j => by rw [← hW3]; rfl
    have sz3 : W3.heap.size = wz.heap.size := by rw [← hW3]; rfl
    rw [hW3] at kz ⊢
    clear hW3 hwz p1 p2 e1 e2 d1 d2 y0
    have n1 := (hh3 p).trans q1
    have n2 := (hh3 (p + 1)).trans q2
    have nk : ∀ j : Nat, j ≠ p → j ≠ p + 1 → W3.heap[j]? = W.heap[j]? := fun j j1 j2 => (hh3 j).trans (q3.out j j1 j2)
    have y1' : W3.cell? ⟨g, o * 2 + 1, none⟩ = some (.int .i64 hi) := by rw [cell_same (nk g (by omega) (by omega))]; exact y1
    have d1 := (cells1 (kz.at c1)).1
    have d2 := (cells1 (kz.at c2)).1
    have e1 := (cells1 n1).1
    clear y1 hh3
    have kz4 : Keep w7 W3.drew := kz.drew
    have hh4 : ∀ j : Nat, W3.drew.heap[j]? = W3.heap[j]? := fun j => rfl
    have sz4 : W3.drew.heap.size = W3.heap.size := rfl
    have hps : p + 4 ≤ W3.drew.heap.size := by rw [sz4, sz3, q4]; exact hC.sz
    have HI : Hid (Kpt w7.heap.size T W W3.drew ∧ ((W3.drew.heap[w9.heap.size]? = W.heap[w9.heap.size]? ∧ W3.drew.heap[w9.heap.size + 1]? = W.heap[w9.heap.size + 1]?)) ∧ KpC w7 p 4 3 (.bool (decide (lim < lo))) (.int .i64 ((k : Nat) : Int)) T W3.drew) := by
      refine ⟨⟨kz4.os.trans kW.os.symm, kz4.tape.trans kW.tape.symm, kz4.output.trans kW.output.symm, by omega, fun j hj hjT => ?_⟩, ⟨nk _ (by omega) (by omega), nk _ (by omega) (by omega)⟩, ⟨kz4, hC.tb, n1, n2, hps⟩⟩
      refine nk j ?_ ?_
      · rcases hjT with q | q
        · omega
        · have := hC.tb j q; omega
      · rcases hjT with q | q
        · omega
        · have := hC.tb j q; omega
    have HX : Hid ((lim < lo ∨ hi ≤ lim) → (W3.drew.heap[w9.heap.size]? = W.heap[w9.heap.size]? ∧ W3.drew.heap[w9.heap.size + 1]? = W.heap[w9.heap.size + 1]?) ∧ ∃ b k'' g', W3.drew.heap[p]? = some (.cells #[.bool b] 4 (0, 0)) ∧ W3.drew.heap[p + 1]? = some (.cells #[.int .i64 ((k'' : Nat) : Int)] 3 (0, 0)) ∧ Keep w7 W3.drew ∧ p + 2 ≤ W3.drew.heap.size ∧ (pre ++ [(k, g)]).getLast? = some (k'', g') ∧ b = decide (lim < ((beL base ts (vX xs) k'').getD o (0, 0)).1) ∧ dcB base ts (vX xs) o lim k'' ∧ ∀ x ∈ (pre ++ [(k, g)]).dropLast, ¬ dcB base ts (vX xs) o lim x.1) :=
      fun hd => ⟨⟨nk _ (by omega) (by omega), nk _ (by omega) (by omega)⟩, _, k, g, n1, n2, kz4, by omega, by simp, by rw [HLH.out], hD.out.2 hd, by simpa using hpre.out⟩
    clear kz kz4 hh4 n1 n2 sz3 sz4 q1 q2 q4 hps
    by_cases h1 : lim < lo
    · have hc1 : decide (lim < lo) = true := decide_eq_true h1
      have H1 : Hid (lim < lo ∨ hi ≤ lim) := Or.inl h1
      rw [hc1] at e1 ⊢
      clear h1 hc1
      gi_wp2
      apply wpIn_to
      · gi_region
        all_goals exact ⟨rfl, rfl, rfl⟩
      gi_wp2
      unfold postT
      obtain ⟨g1, g2⟩ := HX.out H1.out
      exact ⟨g1, rfl, g2⟩
    · have hc1 : decide (lim < lo) = false := decide_eq_false h1
      rw [hc1] at e1 ⊢
      by_cases h2 : hi ≤ lim
      · have H1 : Hid (lim < lo ∨ hi ≤ lim) := Or.inr h2
        have hc2 : decide (hi ≤ lim) = true := decide_eq_true h2
        clear h1 hc1 h2
        gi_wp2
        apply wpIn_to
        · gi_region
          all_goals exact ⟨rfl, rfl, rfl⟩
        gi_wp2
        unfold postT
        obtain ⟨g1, g2⟩ := HX.out H1.out
        exact ⟨g1, rfl, g2⟩
      · have H1 : Hid (¬ (lim < lo ∨ hi ≤ lim)) := fun q => q.elim h1 h2
        have hc2 : decide (hi ≤ lim) = false := decide_eq_false h2
        have H2 : Hid (decide (lim < lo) = false) := hc1
        clear h1 hc1 h2 HX
        gi_wp2
        apply wpIn_to
        · gi_region
          all_goals exact ⟨rfl, rfl, rfl⟩
        gi_wp2
        unfold postT
        obtain ⟨g1, g2, g3⟩ := HI.out
        refine ⟨g2, g1, _, k, g3, ?_, fun _ => ⟨⟨g, by simp⟩, by rw [HLH.out]⟩⟩
        intro x hx
        rcases List.mem_append.1 hx with q | q
        · exact hpre.out x q
        · rw [List.mem_singleton.1 q]; exact fun hd => H1.out (hD.out.1 hd)
  case done =>
    rintro xs' T W ⟨g, rfl⟩ ⟨b, k, hC, hpre, hlast⟩ hD
    obtain ⟨⟨g', hl1⟩, hl2⟩ := hlast (by rw [List.range_succ]; simp)
    have hkt : Hid (k = ts.length) := by
      have : ((List.range (ts.length + 1)).map fun k => (k, g)).getLast? = some (ts.length, g) := by rw [List.range_succ]; simp
      rw [this] at hl1
      show _ = _
      have := (Prod.mk.inj (Option.some.inj hl1)).1
      exact this.symm
    have HB : Hid (b = decide (lim < ((beL base ts (vX xs) k).getD o (0, 0)).1)) := hl2
    have HP : Hid (∀ j, j < k → ¬ dcB base ts (vX xs) o lim j) := by
      intro j hj
      exact hpre (j, g) (List.mem_map.2 ⟨j, by have := hkt.out; simp; omega, rfl⟩)
    clear hl1 hl2 hpre hlast
    have kW : Keep w7 W := hC.be
    have e1 := (cells1 hC.b1).1
    have e2 := (cells1 hC.b2).1
    have hD9 : W.drew.heap[w9.heap.size]? = some (.deferred (some [])) := hD
    have kd : Keep w W.drew := (k07.trans kW).drew
    gi_wp2
    apply wpIn_to
    · gi_region
      all_goals exact ⟨rfl, rfl, rfl⟩
    gi_wp2
    refine ⟨by simp, .inl ⟨_, _, rfl, run_takeDeferred hD9, ?_⟩⟩
    refine ⟨_, results_tmp3 rfl _ _ _, put_keep kd (by omega), k, by have := hkt.out; omega, ?_, .inr hkt.out, HP.out⟩
    rw [← HB.out]
    rfl
  case stop =>
    rintro c pre W ⟨g, k, hk, rfl⟩ ⟨rfl, b, k', g', q1, q2, q3, q4, q5, q6, q7, q8⟩ hD
    have hkk : Hid (k = k') := by
      have : ((List.range (k + 1)).map fun k => (k, g)).getLast? = some (k, g) := by rw [List.range_succ]; simp
      rw [this] at q5
      show _ = _
      exact (Prod.mk.inj (Option.some.inj q5)).1
    have HB : Hid (b = decide (lim < ((beL base ts (vX xs) k').getD o (0, 0)).1)) := q6
    have HP : Hid (∀ j, j < k' → ¬ dcB base ts (vX xs) o lim j) := by
      intro j hj
      refine q8 (j, g) ?_
      have := hkk.out
      rw [List.range_succ, List.map_append, List.map_singleton, List.dropLast_concat]
      exact List.mem_map.2 ⟨j, by simp; omega, rfl⟩
    have HD : Hid (dcB base ts (vX xs) o lim k') := q7
    clear q5 q6 q7 q8
    have e1 := (cells1 q1).1
    have e2 := (cells1 q2).1
    have hD9 : W.drew.heap[w9.heap.size]? = some (.deferred (some [])) := hD
    have kd : Keep w W.drew := (k07.trans q3).drew
    gi_wp2
    apply wpIn_to
    · gi_region
      all_goals exact ⟨rfl, rfl, rfl⟩
    gi_wp2
    refine ⟨by simp, .inl ⟨_, _, rfl, run_takeDeferred hD9, ?_⟩⟩
    refine ⟨_, results_tmp3 rfl _ _ _, put_keep kd (by omega), k', by have := hkk.out; omega, ?_, .inl HD.out, HP.out⟩
    rw [← HB.out]
    rfl
end Go.Proofs.YtodegcobkngmlaaGreatDoor
