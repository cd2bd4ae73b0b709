import Derived.Test.YtpdjpjkieafnbaaGreatDoorO3
import Derived.Test.YtpdjpjkieafnbaaGreatDoorCards
import Derived.Test.YtpdjpjkieafnbaaGreatDoorTie
import Derived.Test.YtpdjpjkieafnbaaGreatDoorRows
import Derived.Test.YtpdjpjkieafnbaaGreatDoorChecked
import Derived.ProofKit
import Derived.OpenShut
import Derived.SizedLaws
import Derived.Deep.DeepHandedRow
import Derived.Lib.LaidTab
import Derived.Lib.TrailingZeros
import Derived.Deep.Slices
import Derived.Laws.Cover2
set_option linter.unusedVariables false
set_option linter.unusedSimpArgs false
namespace Go.Proofs.YtpdjpjkieafnbaaGreatDoor.Li
open Go.RowKit Lb
theorem two_word (k m : Nat) (h : k < 32 * m) : 2 ^ k < 4294967296 ^ m := by
  rw [word_pow]
  exact Nat.pow_lt_pow_right (by omega) h
theorem qN_lt (b : Nat) : qN b < 4294967296 ^ 40 := by
  unfold qN
  split
  · exact Nat.pow_pos (by omega)
  · have h := pM_lt b
    have e := pE_in b
    have q : qX b / Nat.gcd (qX b) (qY b) ≤ qX b := Nat.div_le_self _ _
    unfold qX at *
    have e2 : (pE b).toNat ≤ 971 := Int.toNat_le.2 e.2
    generalize (pE b).toNat = k at *
    have q2 : pM b * 2 ^ k < 2 ^ 53 * 2 ^ k := Nat.mul_lt_mul_of_pos_right h (Nat.two_pow_pos k)
    have q3 : (2 : Nat) ^ 53 * 2 ^ k < 4294967296 ^ 40 := by
      rw [← Nat.pow_add]
      exact two_word (53 + k) 40 (by omega)
    exact Nat.lt_of_le_of_lt q (Nat.lt_trans q2 q3)
theorem qD_lt (b : Nat) : qD b < 4294967296 ^ 40 := by
  unfold qD
  split
  · exact Nat.pow_pos (by omega)
  · have e := pE_in b
    have q : qY b / Nat.gcd (qX b) (qY b) ≤ qY b := Nat.div_le_self _ _
    have e3 : qY b = 2 ^ (-(pE b)).toNat := by unfold qY; rw [Nat.one_mul]
    have e2 : (-(pE b)).toNat ≤ 1074 := Int.toNat_le.2 (by have := e.1; clear e; omega)
    have q3 : 2 ^ (-(pE b)).toNat < 4294967296 ^ 40 := two_word _ 40 (by omega)
    rw [← e3] at q3
    exact Nat.lt_of_le_of_lt q q3
/-- A natural in a run of blocks: its limbs, read, and its row as one's own. -/
theorem NatQ.open {B C : Nat} {w : World} {v : Value} {n : Nat} (h : NatQ B C w v n) : ∃ a c l, v = .slice a l.length c ∧ Lim l ∧ Nrm l ∧ val l = n ∧ RdQ B C w a l ∧ AO B C w (.slice a l.length c) l.length ∧ l.length ≤ c := by
  obtain ⟨l, h1, h2, h3, h4⟩ := h
  rcases h1 with ⟨rfl, rfl⟩ | ⟨g, r, rfl, hb, hc, hr, q1, q2⟩
  · exact ⟨none, 0, [], rfl, h2, h3, h4, fun j hj => by simp at hj, .inl ⟨rfl, rfl⟩, by simp⟩
  · refine ⟨some ⟨g, 0, none⟩, r.length, l, rfl, h2, h3, h4, fun j hj => ⟨g, 0, rfl, hb, hc, ?_⟩, .inr ⟨g, r, rfl, hb, hc, hr, q1⟩, q1⟩
    rw [Nat.zero_add, hr.cell j (by omega)]
    rw [← q2]
    simp [List.getD, List.getElem?_take]
    rw [if_pos (by have := hj; rw [← q2] at this; simp at this; omega)]
theorem Own.rdq {B : Nat} {w : World} {v : Value} {l : List Nat} (h : Own B w v l) : ∃ a c, v = .slice a l.length c ∧ RdQ B w.heap.size w a l := rdB_own h
/-- The first quotient is written over and grown: nothing else turns. -/
structure OwJ (w1 w2 w7 wr : World) (M : Nat) (s : Bool) (vn vd : Value) (n d : Nat) : Prop where
  kp : Keep w1 wr
  eq : ∀ b, w2.heap.size < b → b < w7.heap.size → wr.heap[b]? = w7.heap[b]?
  sz : w7.heap.size ≤ wr.heap.size
  bx : Box wr w2.heap.size (.bool s) vn vd
  an : AO w1.heap.size M wr vn n
  ad : AO M w2.heap.size wr vd d
theorem set_other (w : World) (g j : Nat) (v : Value) (b : Nat) (h : b ≠ g) : (w.setCell ⟨g, j, none⟩ v).heap[b]? = w.heap[b]? := heap_setCell_other w ⟨g, j, none⟩ b v h
end Go.Proofs.YtpdjpjkieafnbaaGreatDoor.Li
set_option linter.unusedVariables false
set_option linter.unusedSimpArgs false
namespace Go.Proofs.YtpdjpjkieafnbaaGreatDoor.Li
open Go.RowKit Lb
/-- The numerator is grown. -/
structure OwK (w1 w2 w7 wr : World) (M : Nat) (s : Bool) (vn vd : Value) (g n d : Nat) : Prop where
  kp : Keep w1 wr
  eq : ∀ b, w2.heap.size < b → b < w7.heap.size → wr.heap[b]? = w7.heap[b]?
  sz : w7.heap.size ≤ wr.heap.size
  bx : Box wr w2.heap.size (.bool s) vn vd
  cg : wr.cell? ⟨g, n, none⟩ = some (.int .u32 9)
  at' : g < M ∨ w2.heap.size < g
  ad : AO M w2.heap.size wr vd d
theorem AO.own_in {B C : Nat} {w : World} {v : Value} {n : Nat} (h : AO B C w v n) (k : Nat) (hk : v.ownBlock = some k) : B ≤ k ∧ k < C := by
  rcases h with ⟨e, -⟩ | ⟨g, rr, e, h1, h2, -, -⟩
  · rw [e] at hk; cases hk
  · rw [e] at hk; cases hk; exact ⟨h1, h2⟩
theorem Box.set1 {w : World} {g : Nat} {x y z : Value} (h : Box w g x y z) (y' : Value) : Box (w.setCell ⟨g, 1, none⟩ y') g x y' z := by
  have h1 := heap_setCell_same w g 1 _ 54 y' h
  unfold Box
  rw [h1]
  simp
theorem Box.set2 {w : World} {g : Nat} {x y z : Value} (h : Box w g x y z) (z' : Value) : Box (w.setCell ⟨g, 2, none⟩ z') g x y z' := by
  have h1 := heap_setCell_same w g 2 _ 54 z' h
  unfold Box
  rw [h1]
  simp
theorem grow_num {w1 w2 w7 wr wB : World} {M : Nat} {s : Bool} {vn vd : Value} {g n d : Nat} (HI : OwJ w1 w2 w7 wr M s vn vd n d) (hL : w1.heap.size ≤ M ∧ M ≤ w2.heap.size) (h27 : w2.heap.size < w7.heap.size)
    (GB : (wr.alloc (.cells #[.int .u32 9] 40)).grownBy wB vn.ownBlock) (cB : wB.cell? ⟨g, n, none⟩ = some (.int .u32 9)) (loc : some g = vn.ownBlock ∨ g = wr.heap.size + 1) (V : Value) :
    Box wB w2.heap.size (.bool s) vn vd ∧ OwK w1 w2 w7 (wB.setCell ⟨w2.heap.size, 1, none⟩ V) M s V vd g n d := by
  have hown := fun k hk => HI.an.own_in k hk
  have hsz := HI.sz
  have hs1 : (wr.alloc (.cells #[.int .u32 9] 40)).heap.size = wr.heap.size + 1 := by simp
  have hB := GB.size
  rw [hs1] at hB
  have same : ∀ i, i < wr.heap.size → M ≤ i → wB.heap[i]? = wr.heap[i]? := by
    intro i h1 h2
    rw [GB.block i (by omega) (fun e => by have := hown i e.symm; omega)]
    exact ((Keep.refl wr).alloc _).block i h1
  have hat : g < M ∨ w2.heap.size < g := by
    rcases loc with h | h
    · exact .inl (hown g h.symm).2
    · right; omega
  have hne : w2.heap.size ≠ g := by omega
  have bxB : Box wB w2.heap.size (.bool s) vn vd := (same _ (by omega) hL.2).trans HI.bx
  refine ⟨bxB, ?_, ?_, ?_, bxB.set1 V, ?_, hat, ?_⟩
  · have kB : Keep w1 wB := Below.grown (HI.kp.alloc _) GB (by have := HI.kp.le; rw [hs1]; omega) (fun k hk => (hown k hk).1)
    exact kB.setCell (p := ⟨w2.heap.size, 1, none⟩) (by show w1.heap.size ≤ w2.heap.size; omega) _
  · intro b h1 h2
    rw [set_other _ _ _ _ b (by omega), same b (by omega) (by omega)]
    exact HI.eq b h1 h2
  · simp; omega
  · rw [World.cell?_setCell_far _ _ _ _ hne]
    exact cB
  · refine HI.ad.same ?_
    intro i h1 h2
    rw [set_other _ _ _ _ i (by omega)]
    exact same i (by omega) h1
/-- Both are grown. -/
structure OwL (w1 w2 w7 wr : World) (s : Bool) (vn vd : Value) (g n h d : Nat) : Prop where
  kp : Keep w1 wr
  eq : ∀ b, w2.heap.size < b → b < w7.heap.size → wr.heap[b]? = w7.heap[b]?
  sz : w7.heap.size ≤ wr.heap.size
  bx : Box wr w2.heap.size (.bool s) vn vd
  cg : wr.cell? ⟨g, n, none⟩ = some (.int .u32 9)
  ch : wr.cell? ⟨h, d, none⟩ = some (.int .u32 10)
theorem grow_den {w1 w2 w7 wr wB : World} {M : Nat} {s : Bool} {vn vd : Value} {g n h d : Nat} (HI : OwK w1 w2 w7 wr M s vn vd g n d) (hL : w1.heap.size ≤ M ∧ M ≤ w2.heap.size) (h27 : w2.heap.size < w7.heap.size)
    (GB : (wr.alloc (.cells #[.int .u32 10] 40)).grownBy wB vd.ownBlock) (cB : wB.cell? ⟨h, d, none⟩ = some (.int .u32 10)) (loc : some h = vd.ownBlock ∨ h = wr.heap.size + 1) (V : Value) :
    Box wB w2.heap.size (.bool s) vn vd ∧ OwL w1 w2 w7 (wB.setCell ⟨w2.heap.size, 2, none⟩ V) s vn V g n h d := by
  have hown := fun k hk => HI.ad.own_in k hk
  have hsz := HI.sz
  have hs1 : (wr.alloc (.cells #[.int .u32 10] 40)).heap.size = wr.heap.size + 1 := by simp
  have hB := GB.size
  rw [hs1] at hB
  have hg := block_lt_of_cell HI.cg
  have same : ∀ i, i < wr.heap.size → i < M ∨ w2.heap.size ≤ i → wB.heap[i]? = wr.heap[i]? := by
    intro i h1 h2
    rw [GB.block i (by omega) (fun e => by have := hown i e.symm; omega)]
    exact ((Keep.refl wr).alloc _).block i h1
  have hne : w2.heap.size ≠ h := by
    rcases loc with q | q
    · have := hown h q.symm; omega
    · omega
  have hne2 : w2.heap.size ≠ g := by have := HI.at'; omega
  have bxB : Box wB w2.heap.size (.bool s) vn vd := (same _ (by omega) (.inr (Nat.le_refl _))).trans HI.bx
  refine ⟨bxB, ?_, ?_, ?_, bxB.set2 V, ?_, ?_⟩
  · have kB : Keep w1 wB := Below.grown (HI.kp.alloc _) GB (by have := HI.kp.le; rw [hs1]; omega) (fun k hk => by have := (hown k hk).1; omega)
    exact kB.setCell (p := ⟨w2.heap.size, 2, none⟩) (by show w1.heap.size ≤ w2.heap.size; omega) _
  · intro b h1 h2
    rw [set_other _ _ _ _ b (by omega), same b (by omega) (.inr (by omega))]
    exact HI.eq b h1 h2
  · simp; omega
  · rw [World.cell?_setCell_far _ _ _ _ hne2, World.cell?_of_block (w := wr) (same g hg (by have := HI.at'; omega))]
    exact HI.cg
  · rw [World.cell?_setCell_far _ _ _ _ hne]
    exact cB
end Go.Proofs.YtpdjpjkieafnbaaGreatDoor.Li
set_option linter.unusedVariables false
set_option linter.unusedSimpArgs false
namespace Go.Proofs.YtpdjpjkieafnbaaGreatDoor.Li
open Go.RowKit Lb
set_option maxRecDepth 100000 in
set_option maxHeartbeats 3000000 in
theorem law_fown (b : Nat) (hb : b < 18446744073709551616) (w : World) :
    Calls Tryz.prog 11 #[.int .u64 (b : Nat)] w fun e w' => e = .returned (.bool true) ∧ Keep w w' := by
  have hB := fun wx => begins_any wx
  have h19 := fun wx => f64from b wx
  have hQ := fun wx => Quotient_own b hb wx
  have bn := qN_lt b
  have bd := qD_lt b
  generalize qS b = s at *
  generalize qZ b = z at *
  generalize qN b = N at *
  generalize qD b = D at *
  have hzz : (z != z) = false := by simp
  have hze : (z == z) = true := by simp
  go_enter Tryz.func11, Tryz.ntmps11
  go_wp2_with fail
  refine (hB _).mono ?_
  rintro e w1 ⟨rfl, k1⟩
  go_wp2_with fail
  refine (hQ _).mono ?_
  rintro e w2 ⟨M, va, vb, rfl, m1, m2, qa, qb, k2⟩
  obtain ⟨aa, ca, la, rfl, la1, la2, la3, ra, oa, lca⟩ := qa.open
  obtain ⟨ab, cb, lb, rfl, lb1, lb2, lb3, rb, ob, lcb⟩ := qb.open
  have ha40 : la.length ≤ 40 := len_of la2 (by rw [la3]; exact bn)
  have hb40 : lb.length ≤ 40 := len_of lb2 (by rw [lb3]; exact bd)
  obtain ⟨w3, hw3⟩ : ∃ w3, w2.alloc (.cells #[.bool s, .slice aa la.length ca, .slice ab lb.length cb] 54) = w3 := ⟨_, rfl⟩
  have k3 : Keep w2 w3 := by rw [← hw3]; exact (Keep.refl w2).alloc _
  have B3 : Box w3 w2.heap.size (.bool s) (.slice aa la.length ca) (.slice ab lb.length cb) := by rw [← hw3]; exact Box.new w2 _ _ _
  have s3 : w3.heap.size = w2.heap.size + 1 := by rw [← hw3]; simp
  go_wp2_with fail
  refine (hQ _).mono ?_
  rintro e w4 ⟨M4, vc, vd, rfl, m3, m4, qc, qd, k4⟩
  obtain ⟨ac, cc, lc, rfl, lc1, lc2, lc3, rc, oc, lcc⟩ := qc.open
  obtain ⟨ad, cd, ld, rfl, ld1, ld2, ld3, rd, od, lcd⟩ := qd.open
  obtain rfl : la = lc := val_inj la1 lc1 la2 lc2 (la3.trans lc3.symm)
  obtain rfl : lb = ld := val_inj lb1 ld1 lb2 ld2 (lb3.trans ld3.symm)
  obtain ⟨w5, hw5⟩ : ∃ w5, w4.alloc (.cells #[.bool s, .slice ac la.length cc, .slice ad lb.length cd] 54) = w5 := ⟨_, rfl⟩
  have k5 : Keep w4 w5 := by rw [← hw5]; exact (Keep.refl w4).alloc _
  have B5 : Box w5 w4.heap.size (.bool s) (.slice ac la.length cc) (.slice ad lb.length cd) := by rw [← hw5]; exact Box.new w4 _ _ _
  obtain ⟨x0, x1, x2⟩ := B5.cells
  have hlt5 : w4.heap.size < w5.heap.size := (Array.getElem?_eq_some_iff.1 B5).1
  have rc5 : Rd w5 ac la := rc.rd.keep k5
  have rd5 : Rd w5 ad lb := rd.rd.keep k5
  have tk1 : True := trivial
  go_wp2_with (first
    | (at_builtin; have _t := tk1; clear tk1; refine wpList_copy32e rfl _ _ rfl la ac cc ?_ ?_ rc5 (by omega) ?_; rotate_left 2; intro ve w6 Oe k6
       obtain ⟨ae, ce, rfl, re⟩ := Oe.rdq
       have B6 := B5.keep k6
       obtain ⟨y0, y1, y2⟩ := B6.cells
       have hlt6 : w4.heap.size < w6.heap.size := (Array.getElem?_eq_some_iff.1 B6).1
       have rd6 : Rd w6 ad lb := rd5.keep k6
       clear x0 x1 x2
       have tk2 : True := trivial)
    | (at_builtin; have _t := tk2; clear tk2; refine wpList_copy32e rfl _ _ rfl lb ad cd ?_ ?_ rd6 (by omega) ?_; rotate_left 2; intro vf w7 Of k7
       obtain ⟨af, cf, rfl, rf⟩ := Of.rdq))
  rotate_left 1
  · rfl
  · rfl
  · rfl
  · rfl
  have k27 : Keep w3 w7 := ((k4.trans k5).trans k6).trans k7
  have HI : Hid (OwJ w1 w2 w7 w7 M s (.slice aa la.length ca) (.slice ab lb.length cb) la.length lb.length) :=
    ⟨(k2.trans k3).trans k27, fun _ _ _ => rfl, Nat.le_refl _, B3.keep k27, oa.same (fun i h1 h2 => (k3.trans k27).block i (by omega)), ob.same (fun i h1 h2 => (k3.trans k27).block i h2)⟩
  have HL : Hid (w1.heap.size ≤ M ∧ M ≤ w2.heap.size) := ⟨m1, m2⟩
  clear y0 y1 y2
  go_loopw [10] (fun i wr => ∃ j : Nat, i = .int .i64 (j : Int) ∧ j ≤ la.length ∧ Hid (OwJ w1 w2 w7 wr M s (.slice aa la.length ca) (.slice ab lb.length cb) la.length lb.length)) (fun i wr => la.length - (intOf i).toNat)
  case atStart => exact ⟨0, rfl, by omega, HI⟩
  case round =>
    clear HI
    obtain ⟨j, rfl, hj, HI⟩ := hrel
    obtain ⟨x0, x1, x2⟩ := HI.out.bx.cells
    by_cases hlt : j < la.length
    · have hltc : (j : Int) < (la.length : Int) := by omega
      rcases HI.out.an with ⟨-, h0⟩ | ⟨g, rr, ev0, hg1, hg2, hrow, hrl⟩
      · omega
      · simp only [Value.slice.injEq] at ev0
        obtain ⟨rfl, -, rfl⟩ := ev0
        have cj := hrow.cell j (by omega)
        have fj := frozen_of_row wr g j _ 40 hrow
        have HJ : Hid (j < la.length) := hlt
        have HI2 : Hid (OwJ w1 w2 w7 (wr.setCell ⟨g, j, none⟩ (.int .u32 (7 : Nat))) M s (.slice (some ⟨g, 0, none⟩) la.length rr.length) (.slice ab lb.length cb) la.length lb.length) := ⟨HI.out.kp.setCell (p := ⟨g, j, none⟩) hg1 _, fun b h1 h2 => (set_other wr g j _ b (by have := HL.out; omega)).trans (HI.out.eq b h1 h2), by have := HI.out.sz; simpa using this, (set_other wr g j _ _ (by have := HL.out; omega)).trans HI.out.bx, .inr ⟨g, rr.set j 7, by simp, hg1, hg2, hrow.set j 7, by simpa using hrl⟩, HI.out.ad.same (fun i h1 h2 => set_other wr g j _ i (by omega))⟩
        clear hlt
        generalize rr.getD j 0 = old at cj
        go_wp2_with fail
        go_roundw
        case rel => exact ⟨j + 1, by go_num, by have := HJ.out; omega, HI2⟩
        case measure => have := HJ.out; simp [intOf]; omega
    · have hltc : ¬ (j : Int) < (la.length : Int) := by omega
      clear hlt hj
      go_wp2_with fail
      go_loopw [11] (fun i wr => ∃ j : Nat, i = .int .i64 (j : Int) ∧ j ≤ lb.length ∧ Hid (OwJ w1 w2 w7 wr M s (.slice aa la.length ca) (.slice ab lb.length cb) la.length lb.length)) (fun i wr => lb.length - (intOf i).toNat)
      case atStart => exact ⟨0, rfl, by omega, HI⟩
      case round =>
        clear HI
        obtain ⟨j, rfl, hj, HI⟩ := hrel
        obtain ⟨x0, x1, x2⟩ := HI.out.bx.cells
        by_cases hlt : j < lb.length
        · have hltc : (j : Int) < (lb.length : Int) := by omega
          rcases HI.out.ad with ⟨-, h0⟩ | ⟨g, rr, ev0, hg1, hg2, hrow, hrl⟩
          · omega
          · simp only [Value.slice.injEq] at ev0
            obtain ⟨rfl, -, rfl⟩ := ev0
            have cj := hrow.cell j (by omega)
            have fj := frozen_of_row wr g j _ 40 hrow
            have HJ : Hid (j < lb.length) := hlt
            have HI2 : Hid (OwJ w1 w2 w7 (wr.setCell ⟨g, j, none⟩ (.int .u32 (8 : Nat))) M s (.slice aa la.length ca) (.slice (some ⟨g, 0, none⟩) lb.length rr.length) la.length lb.length) := ⟨HI.out.kp.setCell (p := ⟨g, j, none⟩) (by have := HL.out; show w1.heap.size ≤ g; omega) _, fun b h1 h2 => (set_other wr g j _ b (by omega)).trans (HI.out.eq b h1 h2), by have := HI.out.sz; simpa using this, (set_other wr g j _ _ (by omega)).trans HI.out.bx, HI.out.an.same (fun i h1 h2 => set_other wr g j _ i (by omega)), .inr ⟨g, rr.set j 8, by simp, hg1, hg2, hrow.set j 8, by simpa using hrl⟩⟩
            clear hlt
            generalize rr.getD j 0 = old at cj
            go_wp2_with fail
            go_roundw
            case rel => exact ⟨j + 1, by go_num, by have := HJ.out; omega, HI2⟩
            case measure => have := HJ.out; simp [intOf]; omega
        · have hltc : ¬ (j : Int) < (lb.length : Int) := by omega
          clear hlt hj
          have h27 : Hid (w2.heap.size < w7.heap.size) := by
            unfold Hid
            have := k27.le
            omega
          have tk3 : True := trivial
          go_wp2_with (first
            | (at_builtin; have _t := tk3; clear tk3; refine wpList_appU w1.heap.size M 9 rfl _ _ rfl la.length _ rfl HI.out.an (by omega) HI.out.kp.le ?_ ?_; rotate_left 1; intro gn cn wB cB GB loc
               obtain ⟨bxB, HK⟩ := grow_num HI.out HL.out h27.out GB cB loc (.slice (some ⟨gn, 0, none⟩) (la.length + 1) cn)
               obtain ⟨p0, p1, p2⟩ := bxB.cells
               have f1 := bxB.free 1
               obtain ⟨r0, r1, r2⟩ := HK.bx.cells
               have HK2 : Hid (OwK w1 w2 w7 (wB.setCell ⟨w2.heap.size, 1, none⟩ (.slice (some ⟨gn, 0, none⟩) (la.length + 1) cn)) M s (.slice (some ⟨gn, 0, none⟩) (la.length + 1) cn) (.slice ab lb.length cb) gn la.length lb.length) := HK
               clear bxB HK x0 x1 x2 cB GB loc
               have tk4 : True := trivial)
            | (at_builtin; have _t := tk4; clear tk4; refine wpList_appU M w2.heap.size 10 rfl _ _ rfl lb.length _ rfl HK2.out.ad (by omega) (by have := HL.out; have := HK2.out.sz; have := h27.out; omega) ?_ ?_; rotate_left 1; intro hn hc wD cD GD loc2
               obtain ⟨bxD, HM⟩ := grow_den HK2.out HL.out h27.out GD cD loc2 (.slice (some ⟨hn, 0, none⟩) (lb.length + 1) hc)
               obtain ⟨q0, q1, q2⟩ := bxD.cells
               have f2 := bxD.free 2
               have HM2 : Hid (OwL w1 w2 w7 (wD.setCell ⟨w2.heap.size, 2, none⟩ (.slice (some ⟨hn, 0, none⟩) (lb.length + 1) hc)) s (.slice (some ⟨gn, 0, none⟩) (la.length + 1) cn) (.slice (some ⟨hn, 0, none⟩) (lb.length + 1) hc) gn la.length hn lb.length) := HM
               clear bxD HM cD GD loc2))
          generalize wD.setCell ⟨w2.heap.size, 2, none⟩ (.slice (some ⟨hn, 0, none⟩) (lb.length + 1) hc) = wE at HM2 ⊢
          refine (hQ _).mono ?_
          rintro e w8 ⟨M8, vg, vh, rfl, m5, m6, qg, qh, k8⟩
          obtain ⟨ag, cg, lg, rfl, lg1, lg2, lg3, rg, og, lcg⟩ := qg.open
          obtain ⟨ah, ch, lh, rfl, lh1, lh2, lh3, rh, oh, lch⟩ := qh.open
          obtain rfl : la = lg := val_inj la1 lg1 la2 lg2 (la3.trans lg3.symm)
          obtain rfl : lb = lh := val_inj lb1 lh1 lb2 lh2 (lb3.trans lh3.symm)
          obtain ⟨w9, hw9⟩ : ∃ w9, w8.alloc (.cells #[.bool s, .slice ag la.length cg, .slice ah lb.length ch] 54) = w9 := ⟨_, rfl⟩
          have k9 : Keep w8 w9 := by rw [← hw9]; exact (Keep.refl w8).alloc _
          have B9 : Box w9 w8.heap.size (.bool s) (.slice ag la.length cg) (.slice ah lb.length ch) := by rw [← hw9]; exact Box.new w8 _ _ _
          have kE9 := k8.trans k9
          have hsz := HM2.out.sz
          have z34 := k4.le
          have z45 := k5.le
          have z56 := k6.le
          have z67 := k7.le
          have eqE : ∀ i, w2.heap.size < i → i < w7.heap.size → w9.heap[i]? = w7.heap[i]? := fun i h1 h2 => (kE9.block i (by omega)).trans (HM2.out.eq i h1 h2)
          have Bb : Box w9 w4.heap.size (.bool s) (.slice ac la.length cc) (.slice ad lb.length cd) := (eqE _ (by omega) (by omega)).trans ((B5.keep k6).keep k7)
          have Ba := HM2.out.bx.keep kE9
          have rc9 : Rd w9 ac la := (rc.same (w' := w9) (fun i h1 h2 => (eqE i (by omega) (by omega)).trans (((k5.trans k6).trans k7).block i (by omega)))).rd
          have rd9 : Rd w9 ad lb := (rd.same (w' := w9) (fun i h1 h2 => (eqE i (by omega) (by omega)).trans (((k5.trans k6).trans k7).block i (by omega)))).rd
          have re9 : Rd w9 ae la := (re.same (w' := w9) (fun i h1 h2 => (eqE i (by omega) (by omega)).trans (k7.block i (by omega)))).rd
          have rf9 : Rd w9 af lb := (rf.same (w' := w9) (fun i h1 h2 => eqE i (by omega) (by omega))).rd
          have rg9 : Rd w9 ag la := rg.rd.keep k9
          have rh9 : Rd w9 ah lb := rh.rd.keep k9
          have n9 := kE9.cell HM2.out.cg
          have d9 := kE9.cell HM2.out.ch
          have KW : Hid (Keep w w9) := k1.trans (HM2.out.kp.trans kE9)
          have FA : Hid (∀ wx, Keep w9 wx → (wx.cell? ⟨w2.heap.size, 1, none⟩ = some (.slice (some ⟨gn, 0, none⟩) (la.length + 1) cn) ∧ wx.cell? ⟨w2.heap.size, 2, none⟩ = some (.slice (some ⟨hn, 0, none⟩) (lb.length + 1) hc)) ∧ (wx.cell? ⟨w4.heap.size, 1, none⟩ = some (.slice ac la.length cc) ∧ wx.cell? ⟨w4.heap.size, 2, none⟩ = some (.slice ad lb.length cd)) ∧ (wx.cell? ⟨w8.heap.size, 1, none⟩ = some (.slice ag la.length cg) ∧ wx.cell? ⟨w8.heap.size, 2, none⟩ = some (.slice ah lb.length ch)) ∧ wx.cell? ⟨gn, la.length, none⟩ = some (.int .u32 9) ∧ wx.cell? ⟨hn, lb.length, none⟩ = some (.int .u32 10)) := by
            intro wx kx
            exact ⟨⟨(Ba.keep kx).cells.2.1, (Ba.keep kx).cells.2.2⟩, ⟨(Bb.keep kx).cells.2.1, (Bb.keep kx).cells.2.2⟩, ⟨(B9.keep kx).cells.2.1, (B9.keep kx).cells.2.2⟩, kx.cell n9, kx.cell d9⟩
          have hS1 := fun wx (kx : Keep w9 wx) => same_any ac ae cc ce la wx (by omega) (rc9.keep kx) (re9.keep kx)
          have hS2 := fun wx (kx : Keep w9 wx) => same_any ad af cd cf lb wx (by omega) (rd9.keep kx) (rf9.keep kx)
          have hS3 := fun wx (kx : Keep w9 wx) => same_any ag ae cg ce la wx (by omega) (rg9.keep kx) (re9.keep kx)
          have hS4 := fun wx (kx : Keep w9 wx) => same_any ah af ch cf lb wx (by omega) (rh9.keep kx) (rf9.keep kx)
          obtain ⟨⟨a1, a2⟩, ⟨b1, b2⟩, ⟨c1, c2⟩, gg, hh⟩ := FA.out _ (Keep.refl _)
          have hl1 : ((la.length : Int) + 1) - 1 = (la.length : Int) := by omega
          have hl2 : ((lb.length : Int) + 1) - 1 = (lb.length : Int) := by omega
          have hA40 : Hid (la.length ≤ 40) := ha40
          have hB40 : Hid (lb.length ≤ 40) := hb40
          clear HM2 HK2 HI HL hQ hB k8 k9 kE9 B9 Ba Bb rc9 rd9 re9 rf9 rg9 rh9 n9 d9 eqE qg qh rg rh og oh q0 q1 q2 f2 r0 r1 r2 p0 p1 p2 f1 k2 k3 k4 k5 k6 k7 k27 rc rd re rf B3 B5 hsz z34 z45 z56 z67 oa ob oc od ra rb qa qb qc qd rc5 rd5
          go_wp2_with fail
          refine (hS1 _ (Keep.refl _)).mono ?_
          rintro e w10 ⟨rfl, k10⟩
          obtain ⟨⟨a1', a2'⟩, ⟨b1', b2'⟩, ⟨c1', c2'⟩, gg', hh'⟩ := FA.out _ k10
          go_wp2_with fail
          refine (hS2 _ k10).mono ?_
          rintro e w11 ⟨rfl, k11⟩
          have K11 := k10.trans k11
          obtain ⟨⟨a1'', a2''⟩, ⟨b1'', b2''⟩, ⟨c1'', c2''⟩, gg'', hh''⟩ := FA.out _ K11
          go_wp2_with fail
          refine (hS3 _ K11).mono ?_
          rintro e w12 ⟨rfl, k12⟩
          have K12 := K11.trans k12
          obtain ⟨⟨a3, a4⟩, ⟨b3, b4⟩, ⟨c3, c4⟩, gg3, hh3⟩ := FA.out _ K12
          go_wp2_with fail
          refine (hS4 _ K12).mono ?_
          rintro e w13 ⟨rfl, k13⟩
          have K13 := K12.trans k13
          obtain ⟨⟨a5, a6⟩, ⟨b5, b6⟩, ⟨c5, c6⟩, gg5, hh5⟩ := FA.out _ K13
          go_wp2_with fail
          go_ret
          exact ⟨rfl, KW.out.trans K13⟩
end Go.Proofs.YtpdjpjkieafnbaaGreatDoor.Li
set_option linter.unusedVariables false
set_option linter.unusedSimpArgs false
namespace Go.Proofs.YtpdjpjkieafnbaaGreatDoor
open Go.ChangeShapes Go.WideShapes Go.ChangeAt Go.RowKit
theorem own : ownKnob Tryz.prog.godebug = none := by kernel_rfl
theorem laidOut : laidOutB Tryz.prog = true := by kernel_rfl
/-- A world in which all five tables hold what the texts lay. -/
def lay5 (W : World) : World :=
  { W with heap := ((((W.heap.modify 2 fun o => match o with
      | .cells _ t frozen => .cells (Lib.pow10Tab.map (fun n : Int => Value.int .u64 n)).toArray t frozen
      | o => o).modify 6 fun o => match o with
      | .cells _ t frozen => .cells (Lib.deBruijn32tab.map (fun n : Nat => Value.int .u8 (n : Int))).toArray t frozen
      | o => o).modify 1 fun o => match o with
      | .cells _ t frozen => .cells (Lib.deBruijn64tab.map (fun n : Nat => Value.int .u8 (n : Int))).toArray t frozen
      | o => o).modify 4 fun o => match o with
      | .cells _ t frozen => .cells (Pinned.utf8FirstZ.map (fun n : Nat => Value.int .u8 (n : Int))).toArray t frozen
      | o => o).modify 5 fun o => match o with
      | .cells _ t frozen => .cells (([128, 191, 160, 191, 128, 159, 144, 191, 128, 143] ++ List.replicate 22 0).map (fun n : Nat => Value.int .u8 (n : Int))).toArray t frozen
      | o => o }
theorem u64_of {n : Int} (h : (Lit.int .u64 n).wf = true) : ∃ m : Nat, n = (m : Int) ∧ m < 18446744073709551616 := by
  simp only [Lit.wf, IntKind.min, IntKind.max, IntKind.signed, IntKind.bits, Bool.and_eq_true, decide_eq_true_eq] at h
  simp at h
  exact ⟨n.toNat, by omega, by omega⟩
end Go.Proofs.YtpdjpjkieafnbaaGreatDoor
