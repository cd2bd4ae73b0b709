import Derived.Test.YtodegcobkngmlaaGreatDoorProg
import Derived.Test.YtodegcobkngmlaaGreatDoorCT2
import Derived.WalkKit
import Derived.WalkSpells
import Derived.WalkLawsBesides
import Derived.Deep.Draws
import Derived.Deep.QuietTactic
import Derived.BigQuiet
import Derived.Laws.Externs
import Derived.Laws.CopyOwn
import Derived.Shelf.Abstract
import Derived.Deep.RegionLaw
import Derived.BigRegion
import Derived.Deep.RegionHeld3
import Derived.RangeFuncBox
import Derived.RangeFuncLeaves
import Derived.RangeFuncCalls
import Derived.RangeFuncRecord
import Derived.Below
import Derived.OwnWalkIn
import Derived.TacticsInMore
import Derived.LoopNIn
import Derived.LoopIn
import Derived.Sort.LoopGhostIn
import Derived.Deep.RegionWith
import Derived.Stop.RegionWithIn
import Derived.Laws.MathBits
import Derived.Maps.OwnSet
import Derived.StringKeys
import Derived.RegionTactic
import Derived.Orders
import Derived.OrdersIn
import Derived.RegionIn
import Ieee.Arith
import Derived.Laws.StructEq
import Derived.Lib.BufferWrite
import Derived.Lib.UnsafeStr
import Derived.Laws.MakeOwn
import Derived.Deep.CutBlock
import Derived.Deep.CutRange
import Derived.WalkMore
set_option linter.unusedVariables false
set_option linter.unusedSimpArgs false
namespace Go.Proofs.YtodegcobkngmlaaGreatDoor
open Go.RowKit Go.Shelf
/-- What is yielded: how many trees were asked, and the block of the spans. -/
abbrev yB (N : Nat) (x : Nat × Nat) : Array Value := #[.int .i64 ((x.1 : Nat) : Int), .slice (some ⟨x.2, 0, none⟩) N N]
/-- The spans as they lie when so many trees were asked. -/
def MB (base : List Int) (ts : List (Int × List Nd)) (v : List Nd → Int) (x : Nat × Nat) (T : Nat → Prop) (A : World) : Prop := T x.2 ∧ A.heap[x.2]? = some (.cells (VB (beL base ts v x.1)).toArray 42 (0, 0))
/-- What the iterator holds between two rounds. -/
structure Bhd (base : List Int) (ts : List (Int × List Nd)) (v : List Nd → Int) (w0 : World) (Be Bx : Nat) (E : Array Value) (ax : Option Addr) (m cx : Nat) (J : List (Nat × Nat) → (Nat → Prop) → World → Prop) (g : Nat) (wr : World) (out : List (Nat × Nat)) (T : Nat → Prop) : Prop where
  BeT : T Be
  BxT : T Bx
  gT : T g
  lt : ∀ k, T k → w0.heap.size ≤ k ∧ k < wr.heap.size
  j : J out T wr
  eq : out = (List.range out.length).map fun k => (k, g)
  le : out.length ≤ ts.length
  be : Keep w0 wr
  bl : wr.heap[Be]? = some (.cells E 26 (0, 0))
  bx : wr.heap[Bx]? = some (.cells #[.slice ax m cx] 27 (0, 0))
  sp : wr.heap[g]? = some (.cells (VB (beL base ts v out.length)).toArray 42 (0, 0))
  ne : g ≠ Be ∧ g ≠ Bx
set_option maxRecDepth 100000 in
set_option maxHeartbeats 2000000 in
theorem behinds_in (w0 : World) (n : Nat) (hn : 1 ≤ n) (y Be Bx : Nat) (nm : ByteArray) (fa : Option Addr) (Fn cf : Nat) (ba : Option Addr) (base : List Int) (cb : Nat) (ta : Option Addr) (ts : List (Int × List Nd)) (ct : Nat) (ax : Option Addr) (cx : Nat) (xs : List Nat) (hxl : xs.length ≤ 17592186044416)
    (J : List (Nat × Nat) → (Nat → Prop) → World → Prop) (Jx : List (Nat × Nat) → World → Prop) (v : List Nd → Int)
    (hN : base.length ≤ 64) (hb : RdI w0 ba base) (ht : RdT w0 ta ts) (htl : ts.length ≤ 65536) (htn : ∀ j, j < ts.length → (ts.getD j (0, [])).2.length ≤ 1759218604441)
    (ho : ∀ k, k < ts.length → ∃ q : Nat, (ts.getD k (0, [])).1 = (q : Int) ∧ q < base.length) (hrm : ∀ o, o < base.length → rm base ts o < 4611686018427387904)
    (hva : ∀ t ∈ ts, (v t.2).natAbs ≤ lg t.2) (hvv : ∀ k, k < ts.length → ((ts.getD k (0, [])).2.getD (endN (ts.getD k (0, [])).2 xs) nd0).vl = v (ts.getD k (0, [])).2) (hE : ∀ k, k < ts.length → shE (ts.getD k (0, [])).2 = 0)
    (hft : ∀ k, k < ts.length → ∀ i, i < (ts.getD k (0, [])).2.length → (((ts.getD k (0, [])).2.getD i nd0).kd = 2 ∨ ((ts.getD k (0, [])).2.getD i nd0).kd = 3) → 0 ≤ ((ts.getD k (0, [])).2.getD i nd0).ft ∧ ((ts.getD k (0, [])).2.getD i nd0).ft < (xs.length : Int))
    (hJ1 : ∀ pre T A B, J pre T A → Stp T A B → J pre (more T A B) B)
    (hY : ∀ pre x T A, J pre T A → MB base ts v x T A → pre.length < ts.length + 1 → YieldAt Fence.wide (n - 1) Tryz.prog y (yB base.length x) A fun e A' => (e = .returned (.bool true) ∧ J (pre ++ [x]) T A' ∧ Kpt w0.heap.size T A A') ∨ (e = .returned (.bool false) ∧ Jx (pre ++ [x]) A'))
    (W : World) (hBl : W.heap[Be]? = some (.cells (ev nm fa Fn cf (base.length : Int) ba base.length cb ta ts.length ct) 26 (0, 0))) (hBx : W.heap[Bx]? = some (.cells #[.slice ax xs.length cx] 27 (0, 0))) (hBn : w0.heap.size ≤ Be) (hBm : w0.heap.size ≤ Bx) (hnW : Keep w0 W) (hxd : RdF w0 ax xs) (h0 : J [] (fun g => g = Be ∨ g = Bx) W) :
    CallsIn Fence.wide n Tryz.prog 19 #[.func (.yield y) #[] #[], .pointer (some ⟨Be, 0, none⟩), .pointer (some ⟨Bx, 0, none⟩)] W fun e W' => (∃ v, e = .returned v) ∧
      ((∃ g T, J ((List.range (ts.length + 1)).map fun k => (k, g)) T W') ∨ ∃ g k, k ≤ ts.length ∧ Jx ((List.range (k + 1)).map fun k => (k, g)) W') := by
  obtain ⟨x0, x1, x2, x3, x4⟩ := cells5 hBl
  have hah := ahead_any nm fa Fn cf ba base cb ta ts ct W hN (hb.keep hnW) (ht.keep hnW) htl htn ho hrm
  refine callsIn_of_wp Tryz.func19 rfl trivial ?_ rfl
  simp only [Tryz.ntmps19, List.size_toArray, List.length_cons, List.length_nil, Nat.reduceAdd, Nat.reduceSub, Array.replicate_succ, Array.replicate_zero, List.push_toArray, List.append_toArray, List.nil_append, List.cons_append]
  gi_wp2_with (refine ⟨trivial, ?_⟩; gi_at_call 20; refine (callsIn_wide.2 hah).mono ?_; rintro e w' ⟨g, rfl, hgs, hG, kA⟩)
  have hT0 : ∀ k, (k = Be ∨ k = Bx) → w0.heap.size ≤ k ∧ k < W.heap.size := fun k hk => by
    rcases hk with rfl | rfl
    · exact ⟨hBn, lt_of_at hBl⟩
    · exact ⟨hBm, lt_of_at hBx⟩
  rw [beL_zero base ts v] at hG
  have hgl : g < w'.heap.size := lt_of_at hG
  have HI0 : Bhd base ts v w0 Be Bx (ev nm fa Fn cf (base.length : Int) ba base.length cb ta ts.length ct) ax xs.length cx J g w' [] (more (fun k => k = Be ∨ k = Bx) W w') := by
    refine ⟨.inl (.inl rfl), .inl (.inr rfl), .inr ⟨hgs, hgl⟩, ?_, hJ1 _ _ _ _ h0 kA.stp, rfl, by simp, hnW.trans kA, kA.at hBl, kA.at hBx, hG, ?_⟩
    · rintro k (h | h)
      · have := hT0 k h; have := kA.le; omega
      · have := hnW.le; omega
    · have h1 := hT0 Be (.inl rfl); have h2 := hT0 Bx (.inr rfl); omega
  clear hah x0 x1 x2 x3 x4 hBl hBx h0 hG kA hgl hT0 hgs
  gi_loopg [5] (ts.length + 1) (fun f iv wr => ∃ out T, iv = .int .i64 ((out.length : Nat) : Int) ∧ ts.length + 1 ≤ f + out.length ∧ Bhd base ts v w0 Be Bx (ev nm fa Fn cf (base.length : Int) ba base.length cb ta ts.length ct) ax xs.length cx J g wr out T)
  case atStart => exact ⟨[], _, rfl, by simp, HI0⟩
  case round =>
    obtain ⟨out, T, rfl, hfu, I⟩ := hrel
    clear HI0 hnW
    have hle := I.le
    obtain ⟨f, rfl⟩ : ∃ f, gk = f + 1 := ⟨gk - 1, by omega⟩
    obtain ⟨fn, tmps, assign, body, hy, hRd⟩ := hY out (out.length, g) _ _ I.j ⟨I.gT, I.sp⟩ (by omega)
    simp only [yB] at hy
    have hout : Hid (out ++ [(out.length, g)] = (List.range (out.length + 1)).map fun k => (k, g)) := by
      show _ = _
      rw [List.range_succ, List.map_append, ← I.eq]
      rfl
    obtain ⟨x0, x1, x2, x3, x4⟩ := cells5 I.bl
    gi_wp2
    refine hRd.mono ?_
    rintro e A2 (⟨rfl, hj2, hk2⟩ | ⟨rfl, hjx⟩)
    · clear hRd hy
      have sz2 := hk2.size
      have ltT := I.lt
      have kTA : ∀ g, T g → A2.heap[g]? = wr.heap[g]? := fun g hg => hk2.block g (ltT g hg).2 (.inr hg)
      have bl2 := (kTA Be I.BeT).trans I.bl
      have bx2 := (kTA Bx I.BxT).trans I.bx
      have sp2 := (kTA g I.gT).trans I.sp
      have be2 : Keep w0 A2 := ⟨hk2.os.trans I.be.os, hk2.tape.trans I.be.tape, hk2.output.trans I.be.output, by have := I.be.size; omega, fun g hg => (hk2.block g (by have := I.be.size; omega) (.inl hg)).trans (I.be.block g hg)⟩
      obtain ⟨z0, z1, z2, z3, z4⟩ := cells5 bl2
      have heq : Hid (out = (List.range out.length).map fun k => (k, g)) := I.eq
      by_cases hkl : out.length < ts.length
      · have hkc : (out.length : Int) < (ts.length : Int) := by omega
        obtain ⟨b, o, na, nc, rfl, c00, c10, hrn0, hnc, hl3, hob⟩ := ht out.length hkl
        have c0 := be2.cell c00
        have c1 := be2.cell c10
        have hrn := hrn0.keep be2
        clear hrn0
        obtain ⟨q, hq, hql⟩ := ho out.length hkl
        rw [hq] at c0 c00
        have hln := htn out.length hkl
        have hEk := hE out.length hkl
        have hfk := hft out.length hkl
        have hvk := hvv out.length hkl
        have hnext := beL_next base ts v out.length q hkl hq hql
        have hfit := beL_fit hva out.length q hql (hrm q hql)
        have hfit2 := beL_fit hva (out.length + 1) q hql (hrm q hql)
        have hmem : ts.getD out.length (0, []) ∈ ts := by simp [List.getD, hkl]
        have hvl := hva _ hmem
        have hlg : lg (ts.getD out.length (0, [])).2 < 4611686018427387904 := by
          have h1 := hrm q hql
          rw [rm_sum] at h1
          have h2 := rsum_sub (o := (q : Int)) (List.singleton_sublist.2 hmem)
          rw [rsum, wo1, if_pos hq] at h2
          omega
        rw [← hnext] at hfit2
        obtain ⟨L, hL⟩ : ∃ L, (ts.getD out.length (0, [])).2 = L := ⟨_, rfl⟩
        rw [hL] at c1 c10 hrn hnc hl3 hln hEk hfk hvk hnext hfit2 hvl hlg
        obtain ⟨l, hl⟩ : ∃ l, beL base ts v out.length = l := ⟨_, rfl⟩
        have hll : l.length = base.length := by rw [← hl, beL_len]
        rw [hl] at sp2 hnext hfit hfit2
        have hfit3 : ((l.getD q (0, 0)).1 - (sp L).1 + v L).natAbs < 4611686018427387904 ∧ ((l.getD q (0, 0)).2 - (sp L).2 + v L).natAbs < 4611686018427387904 := by simpa [List.getD, show q < l.length by omega] using hfit2
        have hSp : ∀ wx, Keep A2 wx → Calls Tryz.prog 22 #[.slice na L.length nc] wx fun e w' => e = .returned (.agg #[.int .i64 (sp L).1, .int .i64 (sp L).2]) ∧ Keep wx w' := fun wx kx => spanOf_any na nc L wx hln (hrn.keep kx)
        have hVa : ∀ wx, Keep A2 wx → Calls Tryz.prog 23 #[.slice na L.length nc, .slice ax xs.length cx] wx fun e w' => e = .returned (.int .i64 (v L)) ∧ Keep wx w' := fun wx kx => by
          have h := valueOf_any na ax nc cx L xs wx hln hxl (hrn.keep kx) ((hxd.keep be2).keep kx) hEk hfk
          rw [hvk] at h
          exact h
        have hNa : ∀ wx, Keep A2 wx → Calls Tryz.prog 21 #[.pointer (some ⟨g, q * 2, none⟩), .agg #[.int .i64 (sp L).1, .int .i64 (sp L).2], .int .i64 (v L)] wx fun e w' => (∃ u, e = .returned u) ∧ w'.heap[g]? = some (.cells (VB (beL base ts v (out.length + 1))).toArray 42 (0, 0)) ∧ (∀ k, k < wx.heap.size → k ≠ g → w'.heap[k]? = wx.heap[k]?) ∧ wx.heap.size ≤ w'.heap.size ∧ (∀ w0, Keep w0 wx → w0.heap.size ≤ g → Keep w0 w') := fun wx kx => by
          have h := narrow_any g (q * 2) _ (l.getD q (0, 0)).1 (l.getD q (0, 0)).2 (sp L).1 (sp L).2 (v L) wx (kx.at sp2) (by simpa using VB_lo l q (by omega)) (by simpa using VB_hi l q (by omega)) (by omega) (by omega) (by omega) (by omega)
          rw [VB_put l q _ _ (by omega), hnext] at h
          exact h
        have bxc : A2.cell? ⟨Bx, 0, none⟩ = some (.slice ax xs.length cx) := by rw [cell_of_row _ _ _ _ 27 (0, 0) bx2]; rfl
        have hqn : (q : Int) < (base.length : Int) := by omega
        have HI : ∀ wB wC, Keep A2 wB → wC.heap[g]? = some (.cells (VB (beL base ts v (out.length + 1))).toArray 42 (0, 0)) → (∀ k, k < wB.heap.size → k ≠ g → wC.heap[k]? = wB.heap[k]?) → wB.heap.size ≤ wC.heap.size → (∀ w0, Keep w0 wB → w0.heap.size ≤ g → Keep w0 wC) →
            Bhd base ts v w0 Be Bx (ev nm fa Fn cf (base.length : Int) ba base.length cb (some ⟨b, o, none⟩) ts.length ct) ax xs.length cx J g wC (out ++ [(out.length, g)]) (more T A2 wC) := by
          intro wB wC kB hg2 hob2 hsz hkp
          have kb := kB.le
          have hgl := ltT g I.gT
          have kw : Keep w0 wC := hkp w0 (be2.trans kB) hgl.1
          have hst : Stp T A2 wC := ⟨kw.os.trans be2.os.symm, kw.tape.trans be2.tape.symm, kw.output.trans be2.output.symm, by omega, fun k hk hT => (hob2 k (by omega) (fun h => hT (h ▸ I.gT))).trans (kB.block k hk)⟩
          refine ⟨.inl I.BeT, .inl I.BxT, .inl I.gT, ?_, hJ1 _ _ _ _ hj2 hst, by simpa using hout.out, by simp; omega, kw, ?_, ?_, by simpa using hg2, I.ne⟩
          · rintro k (h | h)
            · have := ltT k h; omega
            · have := be2.le; omega
          · have := ltT Be I.BeT
            exact ((hob2 Be (by omega) (fun h => I.ne.1 h.symm)).trans (kB.block Be (by omega))).trans bl2
          · have := ltT Bx I.BxT
            exact ((hob2 Bx (by omega) (fun h => I.ne.2 h.symm)).trans (kB.block Bx (by omega))).trans bx2
        have HD : ∀ wB wC, Keep A2 wB → (∀ k, k < wB.heap.size → k ≠ g → wC.heap[k]? = wB.heap[k]?) → (∀ w0, Keep w0 wB → w0.heap.size ≤ g → Keep w0 wC) → wC.cell? ⟨b, o + out.length * 2, none⟩ = some (.int .i64 (q : Int)) ∧ wC.cell? ⟨b, o + out.length * 2 + 1, none⟩ = some (.slice na L.length nc) ∧ wC.cell? ⟨Bx, 0, none⟩ = some (.slice ax xs.length cx) := by
          intro wB wC kB hob2 hkp
          have kw : Keep w0 wC := hkp w0 (be2.trans kB) (ltT g I.gT).1
          refine ⟨kw.cell c00, kw.cell c10, ?_⟩
          have := ltT Bx I.BxT
          have kb := kB.le
          rw [World.cell?_of_block (a := ⟨Bx, 0, none⟩) (hob2 Bx (by omega) (fun h => I.ne.2 h.symm))]
          exact kB.cell bxc
        clear c00 c10
        clear hfit hfit2 hfit3 hnext hvk hfk hEk hvl hlg hL hl hq hft hvv hE hva ho hrm hY hJ1 I heq hj2 hk2 kTA ltT hob hl3 hll
        obtain ⟨⟨sa, sb⟩, hab⟩ : ∃ ab, sp L = ab := ⟨_, rfl⟩
        rw [hab] at hSp hNa
        obtain ⟨vv, hvv⟩ : ∃ vv, v L = vv := ⟨_, rfl⟩
        rw [hvv] at hVa hNa
        clear hab hvv
        replace HI : Hid _ := HI
        replace HD : Hid _ := HD
        have kd : Keep A2 A2.drew := (Keep.refl A2).drew
        gi_wp2
        rw [wpIn_wide]
        go_region_held3 (fun wx => wx.cell? ⟨b, o + out.length * 2, none⟩ = some (.int .i64 (q : Int)) ∧ wx.cell? ⟨b, o + out.length * 2 + 1, none⟩ = some (.slice na L.length nc) ∧ wx.cell? ⟨Bx, 0, none⟩ = some (.slice ax xs.length cx))
          (first
            | exact ⟨c0, c1, bxc⟩
            | with_reducible exact cD
            | with_reducible exact ⟨kC.cell c0, kC.cell c1, kC.cell bxc⟩
            | with_reducible exact ⟨kB.cell c0, kB.cell c1, kB.cell bxc⟩)
          (first
            | (go_at_call 22; refine (hSp _ kd).mono ?_; rintro e wB ⟨rfl, kB'⟩; have kB : Keep A2 wB := kd.trans kB')
            | (go_at_call 23; refine (hVa _ kB).mono ?_; rintro e wC ⟨rfl, kC'⟩; have kC : Keep A2 wC := kB.trans kC')
            | (go_at_call 21; refine (hNa _ kC).mono ?_; rintro e wD ⟨⟨uu, rfl⟩, hD1, hD2, hD3, hD4⟩; have cD := HD.out _ _ kC hD2 hD4))
        all_goals
          have HJ := HI.out _ _ kC hD1 hD2 hD3 hD4
          go_simp
          gi_wp2
          gi_roundg f
          case rel => exact ⟨_, _, by simp, by simp; omega, HJ⟩
          case measure => omega
      · have hkc : ¬ (out.length : Int) < (ts.length : Int) := by omega
        gi_wp2
        go_end0
        refine ⟨⟨_, rfl⟩, .inl ⟨g, T, ?_⟩⟩
        rw [show ts.length = out.length by omega, ← hout.out]
        exact hj2
    · gi_wp2
      go_end0
      refine ⟨⟨_, rfl⟩, .inr ⟨g, out.length, hle, ?_⟩⟩
      rw [← hout.out]
      exact hjx
end Go.Proofs.YtodegcobkngmlaaGreatDoor
