import Derived.Test.YtinjikoocegooaaGreatDoorProg
import Derived.Test.YtinjikoocegooaaGreatDoorV2
import Derived.WalkKit
import Derived.WalkSpells
import Derived.WalkLawsBesides
import Derived.Deep.Draws
import Derived.Deep.QuietTactic
import Derived.BigQuiet
import Derived.Laws.Externs
import Derived.Laws.CopyOwn
import Derived.Shelf.Abstract
import Derived.Deep.RegionLaw
import Derived.BigRegion
import Derived.Deep.RegionHeld3
import Derived.RangeFuncBox
import Derived.RangeFuncLeaves
import Derived.RangeFuncCalls
import Derived.RangeFuncRecord
import Derived.Below
import Derived.OwnWalkIn
import Derived.TacticsInMore
import Derived.LoopNIn
import Derived.LoopIn
import Derived.Sort.LoopGhostIn
import Derived.Deep.RegionWith
import Derived.Stop.RegionWithIn
import Derived.Laws.MathBits
import Derived.Maps.OwnSet
import Derived.StringKeys
import Derived.RegionTactic
import Derived.Orders
import Derived.OrdersIn
import Derived.RegionIn
import Ieee.Arith
import Derived.Laws.StructEq
import Derived.Test.YtinjikoocegooaaGreatDoorA5
import Derived.Test.YtinjikoocegooaaGreatDoorMS15
import Derived.Test.YtinjikoocegooaaGreatDoorMS36
set_option linter.unusedVariables false
set_option linter.unusedSimpArgs false
namespace Go.Proofs.YtinjikoocegooaaGreatDoor
open Go.RowKit Go.Shelf
theorem natv_nil (w : World) : NatV w (.slice none 0 0) 0 := ⟨none, 0, [], rfl, Nat.le_refl _, by intro j hj; simp at hj, by intro x hx; simp at hx, by simp [Lb.Nrm], rfl⟩
def rmN (base : List Int) (ts : List (Int × List Nd)) (o : Int) : Nat := if 0 ≤ o ∧ o < (base.length : Int) then rm base ts o.toNat else 0
def rmZ (base : List Int) (o : Int) : Int := if 0 ≤ o ∧ o < (base.length : Int) then 0 else 2
set_option maxRecDepth 100000 in
theorem Room_all (nm : ByteArray) (fa : Option Addr) (Fn cf : Nat) (N : Int) (ba : Option Addr) (base : List Int) (cb : Nat) (ta : Option Addr) (ts : List (Int × List Nd)) (ct : Nat) (o : Int) (w : World) (hE : EnR w ba base ta ts) :
    Calls Tryz.prog 10 #[.agg (ev nm fa Fn cf N ba base.length cb ta ts.length ct), .int .i64 o] w fun e w' => ∃ v, e = .returned (.tuple #[v, .int .i64 (rmZ base o)]) ∧ NatV w' v (rmN base ts o) ∧ rmN base ts o ≤ 9223372036854775808 * (4398046511104 + 1) ∧ Keep w w' := by
  by_cases h : 0 ≤ o ∧ o < (base.length : Int)
  · obtain ⟨q, rfl⟩ : ∃ q : Nat, o = (q : Int) := ⟨o.toNat, by omega⟩
    have hR := Room_any nm fa Fn cf N ba base cb ta ts ct q w (by omega) hE.bl hE.rb hE.bb hE.tl hE.tn hE.rt
    unfold rmN rmZ
    rw [if_pos h, if_pos h]
    exact hR
  · have hz : rmZ base o = 2 := if_neg h
    have hn : rmN base ts o = 0 := if_neg h
    rw [hz, hn]
    obtain ⟨w1, hw1, k1, t1, s1⟩ := boxed w (ev nm fa Fn cf N ba base.length cb ta ts.length ct) 26
    obtain ⟨-, -, -, c3, c4⟩ := cells5 t1
    by_cases h0 : o < 0
    · have d0 : decide (o < 0) = true := decide_eq_true h0
      clear h h0
      go_enter Tryz.func10, Tryz.ntmps10
      go_wp2_with (rw [hw1])
      go_ret2
      exact ⟨_, rfl, natv_nil _, by omega, k1⟩
    · have d0 : decide (o < 0) = false := decide_eq_false h0
      have d1 : decide ((base.length : Int) ≤ o) = true := decide_eq_true (by omega)
      clear h h0
      go_enter Tryz.func10, Tryz.ntmps10
      go_wp2_with (rw [hw1])
      go_ret2
      exact ⟨_, rfl, natv_nil _, by omega, k1⟩
end Go.Proofs.YtinjikoocegooaaGreatDoor
set_option linter.unusedVariables false
set_option linter.unusedSimpArgs false
namespace Go.Proofs.YtinjikoocegooaaGreatDoor
open Go.RowKit Go.Shelf
/-- The trees in an order. -/
def pick (ts : List (Int × List Nd)) (P : List Nat) : List (Int × List Nd) := P.map fun i => ts.getD i (0, [])
theorem pick_len (ts : List (Int × List Nd)) (P : List Nat) : (pick ts P).length = P.length := by simp [pick]
theorem pick_all (ts : List (Int × List Nd)) : pick ts (List.range ts.length) = ts := by
  apply List.ext_getElem
  · simp [pick]
  · intro i h1 h2
    simp [pick, List.getD, h2]
theorem rsum_perm {o : Int} {l l' : List (Int × List Nd)} (h : l.Perm l') : rsum o l = rsum o l' := by
  induction h with
  | nil => rfl
  | cons x _ ih => rw [rsum, rsum, ih]
  | swap x y l => simp only [rsum]; omega
  | trans _ _ h1 h2 => exact h1.trans h2
theorem pick_sum (o : Int) {ts : List (Int × List Nd)} {P : List Nat} (n : Nat) (hP : P.Perm (List.range ts.length)) : rsum o (pick ts (P.take n)) ≤ rsum o ts := by
  have h1 : (pick ts (P.take n)).Sublist (pick ts P) := (List.take_sublist n P).map _
  have h2 := rsum_sub (o := o) h1
  have h3 : rsum o (pick ts P) = rsum o ts := by
    have := rsum_perm (o := o) (hP.map (fun i => ts.getD i (0, [])))
    rw [show (List.range ts.length).map (fun i => ts.getD i (0, [])) = ts from pick_all ts] at this
    exact this
  omega
theorem pick_mem {ts : List (Int × List Nd)} {P : List Nat} {n : Nat} (hP : P.Perm (List.range ts.length)) {t : Int × List Nd} (h : t ∈ pick ts (P.take n)) : ∃ i, i < ts.length ∧ t = ts.getD i (0, []) := by
  obtain ⟨i, hi, rfl⟩ := List.mem_map.1 h
  exact ⟨i, List.mem_range.1 (hP.subset (List.mem_of_mem_take hi)), rfl⟩
theorem pick_snoc {ts : List (Int × List Nd)} {P : List Nat} {n : Nat} (hn : n < P.length) : pick ts (P.take (n + 1)) = pick ts (P.take n) ++ [ts.getD (P.getD n 0) (0, [])] := by
  unfold pick
  rw [List.take_succ_eq_append_getElem hn, List.map_append]
  simp [List.getD, hn]
theorem sk_app (xs : List Nat) (base : List Int) (us : List (Int × List Nd)) (t : Int × List Nd) : ∀ k, k ≤ us.length → sk xs base (us ++ [t]) k = sk xs base us k
  | 0, _ => rfl
  | k + 1, h => by
    have e : (us ++ [t]).getD k (0, []) = us.getD k (0, []) := by rw [getD_snocU, if_neg (by omega)]
    rw [sk, sk, sk_app xs base us t k (by omega), e]
theorem sk_snoc (xs : List Nat) (base : List Int) (us : List (Int × List Nd)) (t : Int × List Nd) : sk xs base (us ++ [t]) (us.length + 1) = (sk xs base us us.length).set t.1.toNat (wrap64 ((sk xs base us us.length).getD t.1.toNat 0 + lfV t.2 xs)) := by
  rw [sk, sk_app xs base us t us.length (Nat.le_refl _), getD_snocU, if_pos rfl]
theorem ft_ok {nm : ByteArray} {fs : List ByteArray} {N : Int} {base : List Int} {ts : List (Int × List Nd)} (h : (chB nm fs N base ts).1 = 0) : (ftB fs).1 = 0 := by
  rw [chB_eq] at h
  split at h
  · rename_i q
    unfold or3 at q
    by_cases a : (hdS nm fs.length).1 = 0
    · rw [if_pos a] at q
      by_cases b : (ftB fs).1 = 0
      · exact b
      · rw [if_neg b] at q; exact absurd q b
    · rw [if_neg a] at q; exact absurd q a
  · rename_i q; exact absurd h q
/-- Some trees of a right ensemble, in whatever order. -/
theorem pick_ok {nm : ByteArray} {fs : List ByteArray} {N : Int} {base : List Int} {ts : List (Int × List Nd)} {xs : List Nat} {P : List Nat} (h : (chB nm fs N base ts).1 = 0) (hx : xs.length = fs.length) (hP : P.Perm (List.range ts.length)) (n : Nat) :
    (chB nm fs N base (pick ts (P.take n))).1 = 0 ∧ scS fs.length N base (pick ts (P.take n)) xs = (sk xs base (pick ts (P.take n)) (pick ts (P.take n)).length, 0) ∧ ∀ o, o < base.length → ((sk xs base (pick ts (P.take n)) (pick ts (P.take n)).length).getD o 0).natAbs ≤ rm base ts o ∧ rm base ts o < 4611686018427387904 := by
  obtain ⟨-, h1, h2, h3, h4, h5, h6⟩ := chB_ok h
  have hPl : P.length = ts.length := by have := hP.length_eq; simpa using this
  have hr : ∀ t ∈ pick ts (P.take n), ∃ i : Int, (trB t.1 N fs.length t.2 i).1 = 0 := by
    intro t ht
    obtain ⟨i, hi, rfl⟩ := pick_mem hP ht
    exact ⟨_, h5 i hi⟩
  have hs : ∀ o, rsum o (pick ts (P.take n)) ≤ rsum o ts := fun o => pick_sum o n hP
  have hl : (pick ts (P.take n)).length ≤ 65536 := by rw [pick_len, List.length_take]; omega
  have hc : (chB nm fs N base (pick ts (P.take n))).1 = 0 := chB_other h rfl (ft_ok h) hl hr hs
  generalize pick ts (P.take n) = us at *
  have htr : ∀ i, i < us.length → (trB (us.getD i (0, [])).1 N (xs.length : Int) (us.getD i (0, [])).2 (i : Int)).1 = 0 := by
    intro i hi
    obtain ⟨j, hj⟩ := hr (us.getD i (0, [])) (by simp [List.getD, hi])
    rw [hx]
    exact trB_at hj _
  have hrm : ∀ o, o < base.length → rm base ts o < 4611686018427387904 := fun o ho => ouF_all _ _ h6 o (by omega) (by omega)
  have hle : ∀ o, rm base us o ≤ rm base ts o := fun o => by rw [rm_sum, rm_sum]; have := hs o; omega
  have hrm2 : ∀ o, o < base.length → rm base us o < 4611686018427387904 := fun o ho => by have := hrm o ho; have := hle o; omega
  refine ⟨hc, ?_, ?_⟩
  · unfold scS
    rw [if_neg (by omega), if_neg (by omega)]
    have := scF_sk (base := base) htr us.length 0 (by omega)
    rw [List.drop_zero] at this
    exact this
  · intro o ho
    have a1 := sk_le h2 htr hrm2 us.length (Nat.le_refl _) o ho
    have a2 := pk_le base us o us.length (Nat.le_refl _)
    have a3 := hle o
    exact ⟨by omega, hrm o ho⟩
/-- The next tree. -/
theorem pick_next {nm : ByteArray} {fs : List ByteArray} {N : Int} {base : List Int} {ts : List (Int × List Nd)} {xs : List Nat} (h : (chB nm fs N base ts).1 = 0) (hx : xs.length = fs.length) {q : Nat} (hq : q < ts.length) :
    ∃ u : Nat, (ts.getD q (0, [])).1 = (u : Int) ∧ u < base.length ∧ wyE (ts.getD q (0, [])).2 xs.length = 0 ∧ (lfV (ts.getD q (0, [])).2 xs).natAbs ≤ rm base ts u ∧ rm base ts u < 4611686018427387904 := by
  obtain ⟨-, h1, h2, h3, h4, h5, h6⟩ := chB_ok h
  have ht := h5 q hq
  obtain ⟨r1, r2, r3, r4⟩ := trB_ok ht
  rw [← hx] at ht
  have hv := lfV_eq ht
  have hb := lf_le (xs := xs) r3
  rw [← hv.2.1] at hb
  obtain ⟨u, hu⟩ : ∃ u : Nat, (ts.getD q (0, [])).1 = (u : Int) := ⟨(ts.getD q (0, [])).1.toNat, by omega⟩
  have hul : u < base.length := by omega
  refine ⟨u, hu, hul, hv.1, ?_, ouF_all _ _ h6 u (by omega) (by omega)⟩
  have p1 := pk_le base ts u (q + 1) (by omega)
  rw [pk, if_pos hu] at p1
  omega
theorem swap_perm (l : List Nat) {i k : Nat} (hi : i < l.length) (hk : k < l.length) : ((l.set i (l.getD k 0)).set k (l.getD i 0)).Perm l := by
  have := List.set_set_perm hi hk
  simpa [List.getD, hi, hk] using this
end Go.Proofs.YtinjikoocegooaaGreatDoor
set_option linter.unusedVariables false
set_option linter.unusedSimpArgs false
namespace Go.Proofs.YtinjikoocegooaaGreatDoor
open Go.RowKit Go.Shelf
attribute [local go_sem] run_store_float
set_option maxRecDepth 100000 in
set_option maxHeartbeats 2000000 in
theorem copyTree_any (a : Option Addr) (c : Nat) (out : Int) (L : List Nd) (w : World) (hLn : L.length ≤ 1759218604441) (ha : RdN w a L) :
    Calls Tryz.prog 17 #[.agg #[.int .i64 out, .slice a L.length c]] w fun e w' => ∃ a' c', e = .returned (.agg #[.int .i64 out, .slice a' L.length c']) ∧ L.length ≤ c' ∧ CT w' (fun b => w.heap.size ≤ b ∧ b < w'.heap.size) a' c' L ∧ Keep w w' := by
  obtain ⟨w1, hw1, k1, s1, r0, r1⟩ := boxes2n w #[Value.int .i64 out, Value.slice a L.length c] #[Value.int .i64 0, Value.slice none 0 0] 48 48
  have hz0 : w.heap.size < w1.heap.size := (Array.getElem?_eq_some_iff.1 r0).1
  have hz1 : w.heap.size + 1 < w1.heap.size := (Array.getElem?_eq_some_iff.1 r1).1
  have ha1 := ha.keep k1
  replace hw1 : Hid _ := hw1
  replace r0 : Hid _ := r0
  replace r1 : Hid _ := r1
  go_enter Tryz.func17, Tryz.ntmps17
  go_wp2_with fail
  rw [hw1.out]
  go_loopw [3, 9] (fun v iv wr => ∃ (k : Nat) (K : List (Nd × Option Addr × Nat)), k ≤ L.length ∧ iv = .int .i64 k ∧ NIt L w1 k v wr K) (fun _ iv _ => L.length - (intOf iv).toNat)
  case atStart => exact ⟨0, [], by omega, rfl, rfl, fun j hj => by omega, OwnN.nil _ _, fun j hj => by omega, fun j hj => by omega, Keep.refl w1⟩
  case round =>
    obtain ⟨k, K, hk, rfl, hI⟩ := hrel
    by_cases hkl : k < L.length
    · have hkc : (k : Int) < (L.length : Int) := by omega
      obtain ⟨b, o, ca, cp, rfl, hnd⟩ := (ha1.keep hI.kp) k hkl
      obtain ⟨N, hN⟩ : ∃ N, L.getD k nd0 = N := ⟨_, rfl⟩
      have HN : Hid (L.getD k nd0 = N) := hN
      rw [hN] at hnd
      clear hN
      have c0 := hnd.c0
      have c1 := hnd.c1
      have c2 := hnd.c2
      have c3 := hnd.c3
      have c4 := hnd.c4
      have c5 := hnd.c5
      have c6 := hnd.c6
      have c7 := hnd.c7
      have kb : Keep wr (wr.alloc (Obj.cells #[Value.int IntKind.u8 N.kd, Value.int IntKind.i64 N.vl, Value.int IntKind.i64 N.ft, Value.float FloatKind.f64 N.th, Value.slice ca N.cs.length cp, Value.int IntKind.u8 N.ms, Value.int IntKind.i64 N.lf, Value.int IntKind.i64 N.rt] 81)) := (Keep.refl wr).alloc _
      have hCN := copyNode_any N ca cp _ (hnd.rd.keep kb) hnd.sz hnd.cp
      unfold Nd.v at hCN
      have hKl : K.length + 1 ≤ 1759218604441 := by have := hI.len; omega
      have hB4 := hI.kp.le
      clear hnd
      go_wp2_with (first | (go_at_call 42; refine hCN.mono ?_; rintro e w2 ⟨va, cc, rfl, hO, hcc, k2⟩) | (at_builtin; refine wpList_appN w1.heap.size _ rfl _ _ rfl K (N, va, cc) u3 ?_ (hI.own.keep ((kb.trans k2).alloc _)) (Nat.le_trans hB4 ((kb.trans k2).alloc _).le) ⟨w2.heap.size, 0, none⟩ 1 ?_ (newsN w2 _ rfl N va cc) hKl ?_; rotate_left 2; intro v5 w5 hO5 g5 hv5))
      · rw [World.size_alloc] at hO
        exact ⟨⟨k + 1, K ++ [(N, va, cc)], by omega, by go_num, hI.step HN.out ((kb.trans k2).alloc _) (hO.keep ((Keep.refl _).alloc _)) hO5 g5 hv5⟩, by simp [intOf]; omega⟩
      all_goals rfl
    · have hkc : ¬ (k : Int) < (L.length : Int) := by omega
      obtain rfl : k = L.length := by omega
      obtain ⟨an, cn, rfl, hcn, hC6⟩ := hI.ct
      have m0 := (hI.kp.block _ hz0).trans r0.out
      have m1 := (hI.kp.block _ hz1).trans r1.out
      have x0 := cell_of_row wr _ 0 _ 48 (0, 0) m0
      have e0 := cell_of_row wr _ 0 _ 48 (0, 0) m1
      have e1 := cell_of_row wr _ 1 _ 48 (0, 0) m1
      have f0 := frozen_of_row wr _ 0 _ 48 m1
      have f1 := frozen_of_row wr _ 1 _ 48 m1
      simp at x0 e0 e1
      replace m0 : Hid _ := m0
      replace m1 : Hid _ := m1
      go_wp2_with fail
      have F2 : ((wr.setCell ⟨w.heap.size + 1, 0, none⟩ (.int .i64 out)).setCell ⟨w.heap.size + 1, 1, none⟩ (.slice an L.length cn)).heap[w.heap.size + 1]? = some (.cells #[.int .i64 out, .slice an L.length cn] 48 (0, 0)) := by
        have a1 := heap_setCell_same _ (w.heap.size + 1) 0 _ 48 (.int .i64 out) m1.out
        have a2 := heap_setCell_same _ (w.heap.size + 1) 1 _ 48 (.slice an L.length cn) a1
        simpa using a2
      try simp only [Exit.inBlock, Exit.then]
      refine bodyPost_ret (results_cell_row rfl _ _ (w.heap.size + 1) 48 _ (0, 0) _ rfl F2 Tryz.underlying48 rfl (by kernel_rfl)) rfl ?_
      refine ⟨an, cn, rfl, hcn, hC6.same (fun b hb => ?_) (fun b hb => ⟨by have := hb.1; omega, by simpa using hb.2⟩), ?_⟩
      · have h1 := hb.1
        rw [neq_set _ _ _ _ b (by omega), neq_set _ _ _ _ b (by omega)]
      · exact ((k1.trans hI.kp).setCell (p := ⟨w.heap.size + 1, 0, none⟩) (by show w.heap.size ≤ w.heap.size + 1; omega) _).setCell (p := ⟨w.heap.size + 1, 1, none⟩) (by show w.heap.size ≤ w.heap.size + 1; omega) _
end Go.Proofs.YtinjikoocegooaaGreatDoor
set_option linter.unusedVariables false
set_option linter.unusedSimpArgs false
namespace Go.Proofs.YtinjikoocegooaaGreatDoor
open Go.RowKit Go.Shelf
set_option maxRecDepth 100000 in
set_option maxHeartbeats 2000000 in
theorem Copy_any (nm : ByteArray) (fa : Option Addr) (fs : List ByteArray) (cf : Nat) (N : Int) (ba : Option Addr) (base : List Int) (cb : Nat) (ta : Option Addr) (ts : List (Int × List Nd)) (ct : Nat) (w : World)
    (hnm : nm.size ≤ 281474976710656) (hf : RdS w fa fs) (hfz : ∀ j, j < fs.length → (fs.getD j ByteArray.empty).size ≤ 281474976710656) (hfl : fs.length ≤ 8796093022208) (hb : RdI w ba base) (hbc : base.length ≤ cb) (hbl : base.length ≤ 17592186044416) (ht : RdT w ta ts) (htl : ts.length ≤ 4398046511104) (hts : ∀ j, j < ts.length → (ts.getD j (0, [])).2.length ≤ 1759218604441) :
    Calls Tryz.prog 6 #[ens nm fa fs.length cf N ba base.length cb ta ts.length ct] w fun e w' => ∃ fa' cf' ba' cb' ta' ct', e = .returned (ens nm fa' fs.length cf' N ba' base.length cb' ta' ts.length ct') ∧ RdS w' fa' fs ∧ fs.length ≤ cf' ∧ RdI w' ba' base ∧ base.length ≤ cb' ∧ RdT w' ta' ts ∧ ts.length ≤ ct' ∧ Keep w w' := by
  have hH := fun (wx : World) (k : Keep w wx) => copyHead_any nm fa fs cf N ba base cb ta ts.length ct wx hnm (hf.keep k) hfz hfl (hb.keep k) hbc hbl
  unfold ens at hH ⊢
  obtain ⟨w1, hw1, k1, s1, r0, r1⟩ := boxes2n w #[Value.string nm, Value.slice fa fs.length cf, Value.int IntKind.i64 N, Value.slice ba base.length cb, Value.slice ta ts.length ct] #[Value.string { data := #[] }, Value.slice none 0 0, Value.int IntKind.i64 0, Value.slice none 0 0, Value.slice none 0 0] 26 26
  have hz0 : w.heap.size < w1.heap.size := (Array.getElem?_eq_some_iff.1 r0).1
  have hz1 : w.heap.size + 1 < w1.heap.size := (Array.getElem?_eq_some_iff.1 r1).1
  replace hw1 : Hid _ := hw1
  replace r0 : Hid _ := r0
  replace r1 : Hid _ := r1
  go_enter Tryz.func6, Tryz.ntmps6
  go_wp2_with fail
  rw [hw1.out]
  refine (hH _ k1).mono ?_
  rintro e w2 ⟨fa', cf', ba', cb', rfl, oF, oB, k2⟩
  have q0 := (k2.block _ hz0).trans r0.out
  have q1 := (k2.block _ hz1).trans r1.out
  have kb : Keep w2 (w2.alloc (Obj.cells #[Value.string nm, Value.slice fa' fs.length cf', Value.int IntKind.i64 N, Value.slice ba' base.length cb', Value.slice none 0 0] 26)) := (Keep.refl w2).alloc _
  have tb : (w2.alloc (Obj.cells #[Value.string nm, Value.slice fa' fs.length cf', Value.int IntKind.i64 N, Value.slice ba' base.length cb', Value.slice none 0 0] 26)).heap[w2.heap.size]? = some (Obj.cells #[Value.string nm, Value.slice fa' fs.length cf', Value.int IntKind.i64 N, Value.slice ba' base.length cb', Value.slice none 0 0] 26 (0, 0)) := heap_alloc_new w2 _
  have hz2 : w.heap.size + 1 < w2.heap.size := (Array.getElem?_eq_some_iff.1 q1).1
  have p0 := (kb.block _ (by omega)).trans q0
  have x4 := cell_of_row _ _ 4 _ 26 (0, 0) p0
  simp only [List.getElem?_toArray, List.getElem?_cons_zero, List.getElem?_cons_succ] at x4
  have k02 := k1.trans k2
  clear hH
  replace q0 : Hid _ := q0
  replace q1 : Hid _ := q1
  replace tb : Hid _ := tb
  replace p0 : Hid _ := p0
  go_wp2_with fail
  obtain ⟨W, hW⟩ : ∃ W, w2.alloc (Obj.cells #[Value.string nm, Value.slice fa' fs.length cf', Value.int IntKind.i64 N, Value.slice ba' base.length cb', Value.slice none 0 0] 26) = W := ⟨_, rfl⟩
  have sW : W.heap.size = w2.heap.size + 1 := by rw [← hW]; simp
  rw [hW] at kb tb ⊢
  have htW := ht.keep (k02.trans kb)
  clear hW p0 x4
  go_loopw [11] (fun iv wr => ∃ (k : Nat) (v : Value) (K : List (Int × Option Addr × Nat × Nat)), k ≤ ts.length ∧ iv = .int .i64 k ∧ CJt ts w2 W w2.heap.size (.string nm) (.slice fa' fs.length cf') (.int .i64 N) (.slice ba' base.length cb') k v wr K) (fun iv _ => ts.length - (intOf iv).toNat)
  case atStart => exact ⟨0, .slice none 0 0, [], by omega, rfl, rfl, fun j hj => by omega, OwnT.nil _ _, fun j hj => by omega, kb, Nat.le_refl _, tb.out, fun b _ _ => rfl⟩
  case round =>
    obtain ⟨k, v, K, hk, rfl, hI⟩ := hrel
    have kwr : Keep w wr := k02.trans hI.kp
    by_cases hkl : k < ts.length
    · have hkc : (k : Int) < (ts.length : Int) := by omega
      obtain ⟨b, o, na, nc, rfl, d0, d1, dn, dc, dl, df⟩ := (ht.keep kwr) k hkl
      have hln := hts k hkl
      obtain ⟨T, hT⟩ : ∃ T, ts.getD k (0, []) = T := ⟨_, rfl⟩
      have HT : Hid (ts.getD k (0, []) = T) := hT
      rw [hT] at d0 d1 dn dc dl df hln
      clear hT
      obtain ⟨out, L⟩ := T
      simp only at d0 d1 dn dc dl df hln
      have kx : Keep wr (wr.alloc (Obj.cells #[Value.int IntKind.i64 out, Value.slice na L.length nc] 48)) := (Keep.refl wr).alloc _
      have kd : Keep wr (wr.alloc (Obj.cells #[Value.int IntKind.i64 out, Value.slice na L.length nc] 48)).drew := kx.drew
      have hzB : w2.heap.size < wr.heap.size := (Array.getElem?_eq_some_iff.1 hI.bx).1
      have bx1 : (wr.alloc (Obj.cells #[Value.int IntKind.i64 out, Value.slice na L.length nc] 48)).drew.heap[w2.heap.size]? = _ := (kd.block _ hzB).trans hI.bx
      have y0 : (wr.alloc (Obj.cells #[Value.int IntKind.i64 out, Value.slice na L.length nc] 48)).drew.cell? ⟨wr.heap.size, 0, none⟩ = some (.int .i64 out) := by
        have := cell_of_row _ _ 0 _ 48 (0, 0) (heap_alloc_new wr (Obj.cells #[Value.int IntKind.i64 out, Value.slice na L.length nc] 48))
        exact this
      have y1 : (wr.alloc (Obj.cells #[Value.int IntKind.i64 out, Value.slice na L.length nc] 48)).drew.cell? ⟨wr.heap.size, 1, none⟩ = some (.slice na L.length nc) := by
        have := cell_of_row _ _ 1 _ 48 (0, 0) (heap_alloc_new wr (Obj.cells #[Value.int IntKind.i64 out, Value.slice na L.length nc] 48))
        exact this
      have c4 : (wr.alloc (Obj.cells #[Value.int IntKind.i64 out, Value.slice na L.length nc] 48)).drew.cell? ⟨w2.heap.size, 4, none⟩ = some v := by rw [cell_of_row _ _ 4 _ 26 (0, 0) bx1]; rfl
      have hCT := copyTree_any na nc out L (wr.alloc (Obj.cells #[Value.int IntKind.i64 out, Value.slice na L.length nc] 48)).drew hln (dn.keep kd)
      have hKl : K.length + 1 ≤ 4398046511104 := by have := hI.len; omega
      replace bx1 : Hid _ := bx1
      go_wp2_with fail
      go_region_law (first
        | (refine step_appT (B := W.heap.size) rfl _ _ rfl K out an L.length cn _ (hI.own.keep (kd.trans k6)) (Nat.le_trans hI.sz (kd.trans k6).le) hKl rfl rfl ?_; intro v7 w7 hO7 g7 hv7; obtain ⟨a7, c7, rfl, hc7, -⟩ := hO7.shape; have bx7 : w7.heap[w2.heap.size]? = some (.cells #[.string nm, .slice fa' fs.length cf', .int .i64 N, .slice ba' base.length cb', v] 26 (0, 0)) := (g7.block _ (by rw [World.size_alloc]; have := (kd.trans k6).le; omega) (fun e => by have := (hI.own.block e.symm).1; omega)).trans (((kd.trans k6).alloc _).block _ hzB |>.trans hI.bx); have z4 := cell_of_row _ _ 4 _ 26 (0, 0) bx7; have f4 := frozen_of_row _ _ 4 _ 26 bx7; simp only [List.getElem?_toArray, List.getElem?_cons_zero, List.getElem?_cons_succ] at z4; replace bx7 : Hid _ := bx7)
        | (go_simp; go_wp2_with (go_at_call 17; refine hCT.mono ?_; rintro e w6 ⟨an, cn, rfl, hcn, hC6, k6⟩; have c46 := k6.cell c4; have c47 := fun ob => (k6.alloc ob).cell c4; have y06 := k6.cell y0; have y16 := k6.cell y1)))
      all_goals
        have hJ := hI.step (by omega) (Nat.le_refl _) HT.out (kd.trans k6) (hC6.same (fun _ _ => rfl) (fun b hb => ⟨by have h1 := hb.1; have h2 := kd.le; omega, hb.2⟩)) hcn hO7 g7 hv7
        rw [show (K ++ [(out, an, L.length, cn)]).length = K.length + 1 by simp] at hJ
        clear hO7 g7 hv7 hC6 hCT
        go_simp
        go_wp2_with fail
        exact ⟨⟨k + 1, _, _, by omega, by go_num, hJ⟩, by simp [intOf]; omega⟩
    · have hkc : ¬ (k : Int) < (ts.length : Int) := by omega
      obtain rfl : k = ts.length := by omega
      obtain ⟨ta', ct', rfl, hct, -⟩ := hI.own.shape
      have hI' : CJt ts w2 W w2.heap.size (.string nm) (.slice fa' fs.length cf') (.int .i64 N) (.slice ba' base.length cb') ts.length (.slice ta' ts.length ct') wr K := by have h := hI; rw [hI.len] at h; exact h
      rw [hI.len] at hct
      have bxc := hI'.bx
      have m1 : wr.heap[w.heap.size + 1]? = _ := (hI.kp.block _ hz2).trans q1.out
      have g0 := cell_of_row wr _ 0 _ 26 (0, 0) bxc
      have g1 := cell_of_row wr _ 1 _ 26 (0, 0) bxc
      have g2 := cell_of_row wr _ 2 _ 26 (0, 0) bxc
      have g3 := cell_of_row wr _ 3 _ 26 (0, 0) bxc
      have g4 := cell_of_row wr _ 4 _ 26 (0, 0) bxc
      have y0 := cell_of_row wr _ 0 _ 26 (0, 0) m1
      have y1 := cell_of_row wr _ 1 _ 26 (0, 0) m1
      have y2 := cell_of_row wr _ 2 _ 26 (0, 0) m1
      have y3 := cell_of_row wr _ 3 _ 26 (0, 0) m1
      have y4 := cell_of_row wr _ 4 _ 26 (0, 0) m1
      have f0 := frozen_of_row wr _ 0 _ 26 m1
      have f1 := frozen_of_row wr _ 1 _ 26 m1
      have f2 := frozen_of_row wr _ 2 _ 26 m1
      have f3 := frozen_of_row wr _ 3 _ 26 m1
      have f4 := frozen_of_row wr _ 4 _ 26 m1
      simp only [List.getElem?_toArray, List.getElem?_cons_zero, List.getElem?_cons_succ] at g0 g1 g2 g3 g4 y0 y1 y2 y3 y4
      replace m1 : Hid _ := m1
      replace bxc : Hid _ := bxc
      go_wp2_with fail
      obtain ⟨F2, F1⟩ := store5 wr (w.heap.size + 1) 26 _ _ _ _ _ (.string nm) (.slice fa' fs.length cf') (.int .i64 N) (.slice ba' base.length cb') (.slice ta' ts.length ct') m1.out
      try simp only [Exit.inBlock, Exit.then]
      refine bodyPost_ret (results_cell_row rfl _ _ (w.heap.size + 1) 26 _ (0, 0) _ rfl F2 Tryz.underlying26 rfl (by kernel_rfl)) rfl ?_
      have hk12 := k1.le
      have oF' := oF.mono (B' := w.heap.size) (by have := k1.le; omega)
      have lowb : ∀ g, w1.heap.size ≤ g → g < w2.heap.size → wr.heap[g]? = w2.heap[g]? := fun g h1 h2 => hI.kp.block g h2
      have oF2 := oF.same (w' := (((((wr.setCell ⟨w.heap.size + 1, 0, none⟩ (.string nm)).setCell ⟨w.heap.size + 1, 1, none⟩ (.slice fa' fs.length cf')).setCell ⟨w.heap.size + 1, 2, none⟩ (.int .i64 N)).setCell ⟨w.heap.size + 1, 3, none⟩ (.slice ba' base.length cb')).setCell ⟨w.heap.size + 1, 4, none⟩ (.slice ta' ts.length ct'))) (fun g hg => by
        obtain ⟨h1, c, h2⟩ := oF.block hg
        rw [F1 g (by omega)]
        exact lowb g h1 (Array.getElem?_eq_some_iff.1 h2).1)
      have oB2 := oB.same (w' := (((((wr.setCell ⟨w.heap.size + 1, 0, none⟩ (.string nm)).setCell ⟨w.heap.size + 1, 1, none⟩ (.slice fa' fs.length cf')).setCell ⟨w.heap.size + 1, 2, none⟩ (.int .i64 N)).setCell ⟨w.heap.size + 1, 3, none⟩ (.slice ba' base.length cb')).setCell ⟨w.heap.size + 1, 4, none⟩ (.slice ta' ts.length ct'))) (fun g hg => by
        obtain ⟨h1, c, h2⟩ := oB.block hg
        rw [F1 g (by omega)]
        exact lowb g h1 (Array.getElem?_eq_some_iff.1 h2).1)
      obtain ⟨_, _, eF, hF1, hF2⟩ := oF2.shape
      obtain ⟨_, _, eB, hB1, hB2⟩ := oB2.shape
      simp only [Value.slice.injEq] at eF eB
      obtain ⟨rfl, -, rfl⟩ := eF
      obtain ⟨rfl, -, rfl⟩ := eB
      have hTT := hI'.rdT (wf := (((((wr.setCell ⟨w.heap.size + 1, 0, none⟩ (.string nm)).setCell ⟨w.heap.size + 1, 1, none⟩ (.slice fa' fs.length cf')).setCell ⟨w.heap.size + 1, 2, none⟩ (.int .i64 N)).setCell ⟨w.heap.size + 1, 3, none⟩ (.slice ba' base.length cb')).setCell ⟨w.heap.size + 1, 4, none⟩ (.slice ta' ts.length ct'))) (fun g hg => F1 g (by omega)) (fun j hj => by
        obtain ⟨_, _, na, _, _, _, _, hn, _, hl, hf⟩ := ht j hj
        exact ⟨w, na, hn, hl, hf⟩)
      refine ⟨_, _, _, _, _, _, rfl, hF2, hF1, hB2, hB1, hTT.1, hTT.2, ?_⟩
      exact ((((kwr.setCell (p := ⟨w.heap.size + 1, 0, none⟩) (by show w.heap.size ≤ w.heap.size + 1; omega) _).setCell (p := ⟨w.heap.size + 1, 1, none⟩) (by show w.heap.size ≤ w.heap.size + 1; omega) _).setCell (p := ⟨w.heap.size + 1, 2, none⟩) (by show w.heap.size ≤ w.heap.size + 1; omega) _).setCell (p := ⟨w.heap.size + 1, 3, none⟩) (by show w.heap.size ≤ w.heap.size + 1; omega) _).setCell (p := ⟨w.heap.size + 1, 4, none⟩) (by show w.heap.size ≤ w.heap.size + 1; omega) _
end Go.Proofs.YtinjikoocegooaaGreatDoor
