import Derived.Test.YtodegcobkngmlaaGreatDoorProg
import Derived.Test.YtodegcobkngmlaaGreatDoorQ7
import Derived.Test.YtodegcobkngmlaaGreatDoorYR2
import Derived.WalkKit
import Derived.WalkSpells
import Derived.WalkLawsBesides
import Derived.Deep.Draws
import Derived.Deep.QuietTactic
import Derived.BigQuiet
import Derived.Laws.Externs
import Derived.Laws.CopyOwn
import Derived.Shelf.Abstract
import Derived.Deep.RegionLaw
import Derived.BigRegion
import Derived.Deep.RegionHeld3
import Derived.RangeFuncBox
import Derived.RangeFuncLeaves
import Derived.RangeFuncCalls
import Derived.RangeFuncRecord
import Derived.Below
import Derived.OwnWalkIn
import Derived.TacticsInMore
import Derived.LoopNIn
import Derived.LoopIn
import Derived.Sort.LoopGhostIn
import Derived.Deep.RegionWith
import Derived.Stop.RegionWithIn
import Derived.Laws.MathBits
import Derived.Maps.OwnSet
import Derived.StringKeys
import Derived.RegionTactic
import Derived.Orders
import Derived.OrdersIn
import Derived.RegionIn
import Ieee.Arith
set_option linter.unusedVariables false
set_option linter.unusedSimpArgs false
namespace Go.Proofs.YtodegcobkngmlaaGreatDoor
open Go.RowKit Go.Shelf
theorem sel_num : ∀ (l : List (Int × Bool)) (t n : Int), (∀ x ∈ l, x.1 ≠ 0) → sel l t n = if (sel l 0 0).1 = 0 then (0, 0, 0) else ((sel l 0 0).1, t, n)
  | [], t, n, _ => rfl
  | (r, b) :: l, t, n, h => by
    rw [sel, sel]
    by_cases hb : b = true
    · rw [if_pos hb, if_pos hb]; exact sel_num l t n (fun x hx => h x (List.mem_cons_of_mem _ hx))
    · rw [if_neg hb, if_neg hb, if_neg (h (r, b) (by simp))]
structure RTt (w wr : World) (cs : Array Value) (out : Int) (na : Option Addr) (nc : Nat) (L : List Nd) : Prop where
  kp : Keep w wr
  b0 : wr.heap[w.heap.size]? = some (.cells cs 26 (0, 0))
  b1 : wr.heap[w.heap.size + 1]? = some (.cells #[.int .i64 0, .int .i64 0, .int .i64 0] 74 (0, 0))
  b2 : wr.heap[w.heap.size + 1 + 1]? = some (.cells #[.int .i64 out, .slice na L.length nc] 51 (0, 0))
theorem RTt.keep {w wr w' : World} {cs : Array Value} {out : Int} {na : Option Addr} {nc : Nat} {L : List Nd} (h : RTt w wr cs out na nc L) (k : Keep wr w') : RTt w w' cs out na nc L := ⟨h.kp.trans k, k.at h.b0, k.at h.b1, k.at h.b2⟩
set_option maxRecDepth 100000 in
set_option maxHeartbeats 4000000 in
theorem rtree_any (nm : ByteArray) (fa : Option Addr) (Fn cf : Nat) (N : Int) (ba : Option Addr) (bl cb : Nat) (ta : Option Addr) (ts : List (Int × List Nd)) (ct : Nat) (k : Nat) (w : World) (hk : k < ts.length) (htl : ts.length ≤ 4398046511104) (hts : ∀ j, j < ts.length → (ts.getD j (0, [])).2.length ≤ 1759218604441) (ht : RdT w ta ts) :
    Calls Tryz.prog 39 #[.agg (ev nm fa Fn cf N ba bl cb ta ts.length ct), .int .i64 (k : Int)] w fun e w' => e = .returned (bkT (trB (ts.getD k (0, [])).1 N Fn (ts.getD k (0, [])).2 (k : Int))) ∧ Keep w w' := by
  have hl := hts k hk
  have hkc : (k : Int) < (ts.length : Int) := by omega
  obtain ⟨b, o, na, nc, rfl, x0, x1, hrn, hcp⟩ := ht k hk
  clear hcp hts ht hk
  generalize ts.getD k (0, []) = tk at x0 x1 hrn hl ⊢
  obtain ⟨out, L⟩ := tk
  simp only at x0 x1 hrn hl ⊢
  obtain ⟨R, HR⟩ : ∃ R, Hid (R = trB out N Fn L (k : Int)) := ⟨_, rfl⟩
  rw [← HR.out]
  obtain ⟨w1, hw1, k1, t1, s1⟩ := boxed w (ev nm fa Fn cf N ba bl cb (some ⟨b, o, none⟩) ts.length ct) 26
  obtain ⟨w2, hw2, k2, t2, s2⟩ := boxed w1 #[.int .i64 0, .int .i64 0, .int .i64 0] 74
  rw [s1] at t2 s2
  obtain ⟨w3, hw3, k3, t3, s3⟩ := boxed w2 #[.int .i64 out, .slice na L.length nc] 51
  rw [s2] at t3 s3
  have kw2 := k1.trans k2
  have y0 := kw2.cell x0
  have y1 := kw2.cell x1
  obtain ⟨-, -, -, -, z4⟩ := cells5 (k2.at t1)
  obtain ⟨u0, u1, u2, u3, u4⟩ := cells5 ((k2.trans k3).at t1)
  obtain ⟨v0, v1, -, -⟩ := cells2 t3
  have IX : RTt w w3 (ev nm fa Fn cf N ba bl cb (some ⟨b, o, none⟩) ts.length ct) out na nc L := ⟨kw2.trans k3, (k2.trans k3).at t1, k3.at t2, t3⟩
  replace IX : Hid _ := IX
  clear x0 x1 t1 t2 t3
  by_cases c1 : out < 0
  · have e1 : decide (out < 0) = true := decide_eq_true (by omega)
    have HX : Hid (R = (11, (k : Int), -1)) := by
      have hS : sel [(11, winB out 0 (N - 1)), (12, winB (L.length : Int) 1 8191)] (k : Int) (-1) = (11, (k : Int), -1) := by
        rw [sel, if_neg (fun h => by have := win_ok h; omega)]
      unfold Hid; rw [HR.out, trB, hS]; rfl
    clear c1
    go_enter Tryz.func39, Tryz.ntmps39
    go_wp2_with (first | rw [hw1] | rw [hw2] | rw [hw3] | (go_at_call 63; refine (broken_any _ _ _ _).mono ?_; rintro e w9 ⟨rfl, k9⟩; have I9 := (Hid.out IX).keep k9; obtain ⟨d0, d1, d2, p0, p1, p2⟩ := cells3 I9.b1))
    have h := heap3 w9 (w.heap.size + 1) (.int .i64 11) (.int .i64 (k : Int)) (.int .i64 (-1)) I9.b1
    have kk := keep3 I9.kp (w.heap.size + 1) (by omega) (.int .i64 11) (.int .i64 (k : Int)) (.int .i64 (-1))
    refine bodyPost_ret (results_box rfl _ _ (w.heap.size + 1) _ _ _ rfl h) rfl ⟨?_, kk⟩
    rw [HX.out]; rfl
  · by_cases c2 : N ≤ out
    · have e1 : decide (out < 0) = false := decide_eq_false (by omega)
      have e2 : decide (N ≤ out) = true := decide_eq_true (by omega)
      have HX : Hid (R = (11, (k : Int), -1)) := by
        have hS : sel [(11, winB out 0 (N - 1)), (12, winB (L.length : Int) 1 8191)] (k : Int) (-1) = (11, (k : Int), -1) := by
          rw [sel, if_neg (fun h => by have := win_ok h; omega)]
        unfold Hid; rw [HR.out, trB, hS]; rfl
      clear c1 c2
      go_enter Tryz.func39, Tryz.ntmps39
      go_wp2_with (first | rw [hw1] | rw [hw2] | rw [hw3] | (go_at_call 63; refine (broken_any _ _ _ _).mono ?_; rintro e w9 ⟨rfl, k9⟩; have I9 := (Hid.out IX).keep k9; obtain ⟨d0, d1, d2, p0, p1, p2⟩ := cells3 I9.b1))
      have h := heap3 w9 (w.heap.size + 1) (.int .i64 11) (.int .i64 (k : Int)) (.int .i64 (-1)) I9.b1
      have kk := keep3 I9.kp (w.heap.size + 1) (by omega) (.int .i64 11) (.int .i64 (k : Int)) (.int .i64 (-1))
      refine bodyPost_ret (results_box rfl _ _ (w.heap.size + 1) _ _ _ rfl h) rfl ⟨?_, kk⟩
      rw [HX.out]; rfl
    · by_cases c3 : L.length < 1
      · have e1 : decide (out < 0) = false := decide_eq_false (by omega)
        have e2 : decide (N ≤ out) = false := decide_eq_false (by omega)
        have e3 : decide ((L.length : Int) < 1) = true := decide_eq_true (by omega)
        have HX : Hid (R = (12, (k : Int), -1)) := by
          have hS : sel [(11, winB out 0 (N - 1)), (12, winB (L.length : Int) 1 8191)] (k : Int) (-1) = (12, (k : Int), -1) := by
            have hw : winB out 0 (N - 1) = true := by unfold winB; rw [decide_eq_true (by omega), decide_eq_true (by omega)]; rfl
            rw [sel, if_pos hw, sel, if_neg (fun h => by have := win_ok h; omega)]
          unfold Hid; rw [HR.out, trB, hS]; rfl
        clear c1 c2 c3
        go_enter Tryz.func39, Tryz.ntmps39
        go_wp2_with (first | rw [hw1] | rw [hw2] | rw [hw3] | (go_at_call 63; refine (broken_any _ _ _ _).mono ?_; rintro e w9 ⟨rfl, k9⟩; have I9 := (Hid.out IX).keep k9; obtain ⟨d0, d1, d2, p0, p1, p2⟩ := cells3 I9.b1))
        have h := heap3 w9 (w.heap.size + 1) (.int .i64 12) (.int .i64 (k : Int)) (.int .i64 (-1)) I9.b1
        have kk := keep3 I9.kp (w.heap.size + 1) (by omega) (.int .i64 12) (.int .i64 (k : Int)) (.int .i64 (-1))
        refine bodyPost_ret (results_box rfl _ _ (w.heap.size + 1) _ _ _ rfl h) rfl ⟨?_, kk⟩
        rw [HX.out]; rfl
      · by_cases c4 : 8191 < L.length
        · have e1 : decide (out < 0) = false := decide_eq_false (by omega)
          have e2 : decide (N ≤ out) = false := decide_eq_false (by omega)
          have e3 : decide ((L.length : Int) < 1) = false := decide_eq_false (by omega)
          have e4 : decide ((8191 : Int) < (L.length : Int)) = true := decide_eq_true (by omega)
          have HX : Hid (R = (12, (k : Int), -1)) := by
            have hS : sel [(11, winB out 0 (N - 1)), (12, winB (L.length : Int) 1 8191)] (k : Int) (-1) = (12, (k : Int), -1) := by
              have hw : winB out 0 (N - 1) = true := by unfold winB; rw [decide_eq_true (by omega), decide_eq_true (by omega)]; rfl
              rw [sel, if_pos hw, sel, if_neg (fun h => by have := win_ok h; omega)]
            unfold Hid; rw [HR.out, trB, hS]; rfl
          clear c1 c2 c3 c4
          go_enter Tryz.func39, Tryz.ntmps39
          go_wp2_with (first | rw [hw1] | rw [hw2] | rw [hw3] | (go_at_call 63; refine (broken_any _ _ _ _).mono ?_; rintro e w9 ⟨rfl, k9⟩; have I9 := (Hid.out IX).keep k9; obtain ⟨d0, d1, d2, p0, p1, p2⟩ := cells3 I9.b1))
          have h := heap3 w9 (w.heap.size + 1) (.int .i64 12) (.int .i64 (k : Int)) (.int .i64 (-1)) I9.b1
          have kk := keep3 I9.kp (w.heap.size + 1) (by omega) (.int .i64 12) (.int .i64 (k : Int)) (.int .i64 (-1))
          refine bodyPost_ret (results_box rfl _ _ (w.heap.size + 1) _ _ _ rfl h) rfl ⟨?_, kk⟩
          rw [HX.out]; rfl
        · have e1 : decide (out < 0) = false := decide_eq_false (by omega)
          have e2 : decide (N ≤ out) = false := decide_eq_false (by omega)
          have e3 : decide ((L.length : Int) < 1) = false := decide_eq_false (by omega)
          have e4 : decide ((8191 : Int) < (L.length : Int)) = false := decide_eq_false (by omega)
          obtain ⟨T, HT⟩ : ∃ T, Hid (T = tnF L Fn (k : Int) L.length 0) := ⟨_, rfl⟩
          have HR1 : Hid (R = if T.1 = 0 then sel [(20, shE L == 0)] (k : Int) (shI L : Int) else T) := by
            have hS : sel [(11, winB out 0 (N - 1)), (12, winB (L.length : Int) 1 8191)] (k : Int) (-1) = (0, 0, 0) := by
              have hw : winB out 0 (N - 1) = true := by unfold winB; rw [decide_eq_true (by omega), decide_eq_true (by omega)]; rfl
              have hw2 : winB (L.length : Int) 1 8191 = true := by unfold winB; rw [decide_eq_true (by omega), decide_eq_true (by omega)]; rfl
              rw [sel, if_pos hw, sel, if_pos hw2]; rfl
            unfold Hid; rw [HR.out, trB, hS, HT.out]; rfl
          have hL8 : Hid (L.length ≤ 8191) := by unfold Hid; omega
          clear c1 c2 c3 c4 HR
          go_enter Tryz.func39, Tryz.ntmps39
          go_wp2_with (first | rw [hw1] | rw [hw2] | rw [hw3])
          clear u0 u1 u2 u3 u4 v0 v1 y0 y1 z4
          go_loopw [7] (fun i wr => ∃ j : Nat, i = .int .i64 (j : Int) ∧ j ≤ L.length ∧ Hid (T = tnF L Fn (k : Int) (L.length - j) j) ∧ Hid (RTt w wr (ev nm fa Fn cf N ba bl cb (some ⟨b, o, none⟩) ts.length ct) out na nc L)) (fun i wr => L.length - (intOf i).toNat)
          case atStart => exact ⟨0, rfl, by omega, HT, IX⟩
          case round =>
            clear IX
            obtain ⟨j, rfl, hj, H, IX⟩ := hrel
            obtain ⟨v0, v1, -, -⟩ := cells2 IX.out.b2
            obtain ⟨u0, u1, u2, u3, u4⟩ := cells5 IX.out.b0
            by_cases hlt : j < L.length
            · have hltc : (j : Int) < (L.length : Int) := by omega
              obtain ⟨b', o', ca, cap, rfl, hA⟩ := (hrn.keep IX.out.kp) j hlt
              have H1 : Hid (tnF L Fn (k : Int) (L.length - j) j = if (sel (ndS (L.getD j nd0) Fn (L.length : Int)) (k : Int) (j : Int)).1 = 0 then tnF L Fn (k : Int) (L.length - (j + 1)) (j + 1) else sel (ndS (L.getD j nd0) Fn (L.length : Int)) (k : Int) (j : Int)) := by
                rw [show L.length - j = (L.length - (j + 1)) + 1 by omega, tnF]; rfl
              have HK : Hid (j < L.length) := hlt
              clear hlt
              generalize L.getD j nd0 = n at hA H1
              have HN : Hid (sel (ndS n Fn (L.length : Int)) (k : Int) (j : Int) = if ndR n Fn (L.length : Int) = 0 then (0, 0, 0) else (ndR n Fn (L.length : Int), (k : Int), (j : Int))) := sel_num _ _ _ (ndS_ne n Fn (L.length : Int))
              obtain ⟨a0, a1, a2, a3, a4, a5, a6, a7, hrd, hcp, hsz, hok⟩ := hA
              have hNd := fun wx (q : Keep wr wx) => rnodeR_any n ca cap (Fn : Int) (L.length : Int) wx hok.th hsz (hrd.keep q)
              generalize ndR n Fn (L.length : Int) = r at HN hNd
              clear hok
              go_wp2_with fail
              refine region_keep (Keep.refl wr) (by kernel_rfl) (by kernel_rfl) ?_
              repeat
                with_reducible refine wpQuiet_step ?_
                intro K hK
                go_simp
                first
                  | (with_reducible refine hK _ ?_; clear hK K)
                  | (apply Exists.intro
                     with_reducible refine ⟨fun wx hC => ?_, hK _ ?_⟩
                     · first
                         | with_reducible rfl
                         | with_reducible exact (hNd wx hC).mono fun e w'' h => ⟨h.1, hC.trans h.2⟩
                         | (have q0 := hC.cell v0; have q1 := hC.cell v1; have q2 := hC.cell u0; have q3 := hC.cell u1; have p0 := hC.cell a0; have p1 := hC.cell a1; have p2 := hC.cell a2; have p3 := hC.cell a3; have p4 := hC.cell a4; have p5 := hC.cell a5; have p6 := hC.cell a6; have p7 := hC.cell a7; go_simp; with_reducible rfl)
                     clear hK K)
              with_reducible refine wpQuiet_nil ?_
              intro w6 k6
              have IY := IX.out.keep k6
              replace IY : Hid _ := IY
              go_simp
              by_cases hr : r = 0
              · have H2 : Hid (T = tnF L Fn (k : Int) (L.length - (j + 1)) (j + 1)) := by unfold Hid; rw [H.out, H1.out, HN.out, if_pos hr]; rfl
                subst hr
                go_wp2_with fail
                go_roundw
                case rel => exact ⟨j + 1, by go_num, by have := HK.out; omega, H2, IY⟩
                case measure => have := HK.out; simp [intOf]; omega
              · have hrc : (r != 0) = true := by simpa using hr
                have HX : Hid (R = (r, (k : Int), (j : Int))) := by
                  have hT : T = (r, (k : Int), (j : Int)) := by rw [H.out, H1.out, HN.out, if_neg hr]; exact if_neg hr
                  unfold Hid; rw [HR1.out, hT]; exact if_neg hr
                have HQ : Hid (r != 0) := hrc
                clear hr IX
                go_wp2_with (first | (go_at_call 63; refine (broken_any _ _ _ _).mono ?_; rintro e w9 ⟨rfl, k9⟩; have I9 := (Hid.out IY).keep k9; obtain ⟨d0, d1, d2, p0, p1, p2⟩ := cells3 I9.b1))
                have h := heap3 w9 (w.heap.size + 1) (.int .i64 r) (.int .i64 (k : Int)) (.int .i64 (j : Int)) I9.b1
                have kk := keep3 I9.kp (w.heap.size + 1) (by omega) (.int .i64 r) (.int .i64 (k : Int)) (.int .i64 (j : Int))
                refine bodyPost_ret (results_box rfl _ _ (w.heap.size + 1) _ _ _ rfl h) rfl ⟨?_, kk⟩
                rw [HX.out]
                show Ending.returned (.tuple #[_, .bool true]) = Ending.returned (.tuple #[_, .bool (r != 0)])
                rw [show (r != 0) = true from HQ]
            · have hltc : ¬ (j : Int) < (L.length : Int) := by omega
              have hT : T = (0, 0, 0) := by rw [H.out, show L.length - j = 0 by omega]; rfl
              have HS : Hid (R = if (shE L == 0) = true then (0, 0, 0) else (20, (k : Int), (shI L : Int))) := by unfold Hid; rw [HR1.out, hT]; rfl
              have hSh := rShape_any wr na nc out L (by omega) (hrn.keep IX.out.kp)
              generalize shE L = z at hSh HS
              generalize (shI L : Nat) = y at hSh HS
              clear hlt hT HR1 H
              by_cases hz : z = 0
              · subst hz
                have HX : Hid (R = (0, 0, 0)) := HS.out
                go_wp2_with (first | (go_at_call 43; refine hSh.mono ?_; rintro e w8 ⟨rfl, k8⟩; have I9 := IX.out.keep k8; obtain ⟨d0, d1, d2, p0, p1, p2⟩ := cells3 I9.b1))
                have h := heap3 w8 (w.heap.size + 1) (.int .i64 0) (.int .i64 0) (.int .i64 0) I9.b1
                have kk := keep3 I9.kp (w.heap.size + 1) (by omega) (.int .i64 0) (.int .i64 0) (.int .i64 0)
                refine bodyPost_ret (results_box rfl _ _ (w.heap.size + 1) _ _ _ rfl h) rfl ⟨?_, kk⟩
                rw [HX.out]; rfl
              · have hzc : (z != 0) = true := by simpa using hz
                have HX : Hid (R = (20, (k : Int), (y : Int))) := by unfold Hid; rw [HS.out]; exact if_neg (fun h => hz (by simpa using h))
                clear hz HS
                go_wp2_with (first | (go_at_call 43; refine hSh.mono ?_; rintro e w8 ⟨rfl, k8⟩; have IY := IX.out.keep k8; replace IY : Hid _ := IY) | (go_at_call 63; refine (broken_any _ _ _ _).mono ?_; rintro e w9 ⟨rfl, k9⟩; have I9 := (Hid.out IY).keep k9; obtain ⟨d0, d1, d2, p0, p1, p2⟩ := cells3 I9.b1))
                have h := heap3 w9 (w.heap.size + 1) (.int .i64 20) (.int .i64 (k : Int)) (.int .i64 (y : Int)) I9.b1
                have kk := keep3 I9.kp (w.heap.size + 1) (by omega) (.int .i64 20) (.int .i64 (k : Int)) (.int .i64 (y : Int))
                refine bodyPost_ret (results_box rfl _ _ (w.heap.size + 1) _ _ _ rfl h) rfl ⟨?_, kk⟩
                rw [HX.out]; rfl
end Go.Proofs.YtodegcobkngmlaaGreatDoor
set_option linter.unusedVariables false
set_option linter.unusedSimpArgs false
namespace Go.Proofs.YtodegcobkngmlaaGreatDoor
open Go.RowKit Go.Shelf
theorem lgF_le {L : List Nd} {B : Nat} (h : ∀ j, j < L.length → (L.getD j nd0).vl.natAbs ≤ B) : ∀ (f k m : Nat), k + f ≤ L.length → m ≤ B → lgF L f k m ≤ B
  | 0, k, m, _, hm => hm
  | f + 1, k, m, hk, hm => by
    rw [lgF]
    refine lgF_le h f (k + 1) _ (by omega) ?_
    split
    · exact h k (by omega)
    · exact hm
theorem lg_le {L : List Nd} {w : World} {a : Option Addr} (h : RdN w a L) : lg L ≤ 9223372036854775808 := by
  refine lgF_le (fun j hj => ?_) _ _ _ (by omega) (by omega)
  obtain ⟨b, o, ca, cap, -, hA⟩ := h j hj
  have := hA.ok.vl
  omega
set_option maxRecDepth 100000 in
set_option maxHeartbeats 3000000 in
theorem rRoom_any (nm : ByteArray) (fa : Option Addr) (Fn cf : Nat) (N : Int) (ba : Option Addr) (base : List Int) (cb : Nat) (ta : Option Addr) (ts : List (Int × List Nd)) (ct : Nat) (o : Nat) (w : World) (ho : o < base.length) (hE : EnR w ba base ta ts) :
    Calls Tryz.prog 41 #[.agg (ev nm fa Fn cf N ba base.length cb ta ts.length ct), .int .i64 (o : Int)] w fun e w' => ∃ v, e = .returned (.tuple #[v, .int .i64 0]) ∧ NatV w' v (rm base ts o) ∧ rm base ts o ≤ 9223372036854775808 * (4398046511104 + 1) ∧ Keep w w' := by
  obtain ⟨hbl, hb, hbb, htl, hts, ht⟩ := hE
  have HR : Hid (rm base ts o = rmF (o : Int) ts ts.length 0 (base.getD o 0).natAbs) := rfl
  generalize rm base ts o = G at HR ⊢
  have hbo := hbb (base.getD o 0) (by simp [List.getD, ho])
  obtain ⟨b0, o0, rfl, x0⟩ := hb o ho
  have hzb : (base.getD o 0).natAbs ≤ 9223372036854775808 := by omega
  obtain ⟨w1, hw1, k1, t1, s1⟩ := boxed w (ev nm fa Fn cf N (some ⟨b0, o0, none⟩) base.length cb ta ts.length ct) 26
  obtain ⟨-, -, -, c3, c4⟩ := cells5 t1
  have x1 := k1.cell x0
  generalize base.getD o 0 = z at hbo x1 HR hzb
  have hAm := ramount_any z hbo w1
  generalize z.natAbs = za at hAm HR hzb
  have hl1 : decide ((o : Int) < 0) = false := decide_eq_false (by omega)
  have hl2 : decide ((base.length : Int) ≤ (o : Int)) = false := decide_eq_false (by omega)
  have hoc : (o : Int) < (base.length : Int) := by omega
  clear hbo x0 hbb
  go_enter Tryz.func41, Tryz.ntmps41
  go_wp2_with (first | rw [hw1] | (go_at_call 66; refine hAm.mono ?_; rintro e wx ⟨rfl, hx⟩; rw [hx]; clear hx wx))
  clear c3 c4
  go_loopw [6, 7, 8] (fun vl vh i wr => ∃ k lo hi : Nat, vl = .int .u64 (lo : Int) ∧ vh = .int .u64 (hi : Int) ∧ i = .int .i64 (k : Int) ∧ k ≤ ts.length ∧ lo < 18446744073709551616 ∧ lo + 18446744073709551616 * hi ≤ 9223372036854775808 * (k + 1) ∧ Hid (G = rmF (o : Int) ts (ts.length - k) k (lo + 18446744073709551616 * hi)) ∧ Keep w1 wr) (fun vl vh i wr => ts.length - (intOf i).toNat)
  case atStart => exact ⟨0, za, 0, rfl, rfl, rfl, by omega, by omega, by omega, HR, Keep.refl _⟩
  case round =>
    obtain ⟨k, lo, hi, rfl, rfl, rfl, hk, hlo, hs, H, kr⟩ := hrel
    obtain ⟨-, -, -, c3, c4⟩ := cells5 (kr.at t1)
    by_cases hlt : k < ts.length
    · have hltc : (k : Int) < (ts.length : Int) := by omega
      have hl := hts k hlt
      obtain ⟨b, p, na, nc, rfl, y0, y1, hrn, hcp⟩ := (ht.keep (k1.trans kr)) k hlt
      have H1 : Hid (rmF (o : Int) ts (ts.length - k) k (lo + 18446744073709551616 * hi) = rmF (o : Int) ts (ts.length - (k + 1)) (k + 1) (if (ts.getD k (0, [])).1 = (o : Int) then (lo + 18446744073709551616 * hi) + lg (ts.getD k (0, [])).2 else (lo + 18446744073709551616 * hi))) := by
        rw [show ts.length - k = (ts.length - (k + 1)) + 1 by omega, rmF]; rfl
      have HK : Hid (k < ts.length) := hlt
      clear hlt hcp
      generalize ts.getD k (0, []) = tk at y0 y1 hrn H1 hl
      obtain ⟨out, L⟩ := tk
      simp only at y0 y1 hrn H1 hl
      by_cases he : out = (o : Int)
      · have hec : (out != (o : Int)) = false := by rw [bne, beq_iff_eq.2 he]; rfl
        have H2 : Hid (G = rmF (o : Int) ts (ts.length - (k + 1)) (k + 1) (lo + 18446744073709551616 * hi + lg L)) := by unfold Hid; rw [H.out, H1.out, if_pos he]
        have hLg := rLargest_any out na nc L wr hl hrn
        have hgb : lg L ≤ 9223372036854775808 := lg_le hrn
        clear he H1 H
        generalize lg L = g at hLg H2 hgb
        by_cases hov : lo + g < 18446744073709551616
        · have hwr : IntKind.u64.wrap ((lo : Int) + (g : Int)) = ((lo + g : Nat) : Int) := by rw [IntKind.wrap_u64]; omega
          obtain ⟨l2, hl2'⟩ : ∃ l2, l2 = lo + g := ⟨_, rfl⟩
          rw [← hl2'] at hwr
          have hcm : ¬ (l2 : Int) < (g : Int) := by omega
          have HL2 : Hid (l2 = lo + g ∧ lo + g < 18446744073709551616 ∧ g ≤ 9223372036854775808 ∧ lo + 18446744073709551616 * hi ≤ 9223372036854775808 * (k + 1)) := ⟨hl2', hov, hgb, hs⟩
          clear hl2' hov hs hgb
          go_wp2_with (first | (go_at_call 67; refine hLg.mono ?_; rintro e w4 ⟨rfl, hg, k4⟩))
          go_roundw
          case rel => exact ⟨k + 1, l2, hi, rfl, rfl, by go_num, by have := HK.out; omega, by have := HL2.out; omega, by have := HL2.out; omega, by unfold Hid; rw [H2.out, HL2.out.1]; congr 1; omega, kr.trans k4⟩
          case measure => have := HK.out; simp [intOf]; omega
        · obtain ⟨l2, hl2'⟩ : ∃ l2, l2 + 18446744073709551616 = lo + g := ⟨lo + g - 18446744073709551616, by omega⟩
          have hwr : IntKind.u64.wrap ((lo : Int) + (g : Int)) = (l2 : Int) := by rw [IntKind.wrap_u64]; omega
          have hwr2 : IntKind.u64.wrap ((hi : Int) + 1) = ((hi + 1 : Nat) : Int) := by rw [IntKind.wrap_u64]; omega
          have hcm : (l2 : Int) < (g : Int) := by omega
          have HL2 : Hid (l2 + 18446744073709551616 = lo + g ∧ g ≤ 9223372036854775808 ∧ lo < 18446744073709551616 ∧ lo + 18446744073709551616 * hi ≤ 9223372036854775808 * (k + 1)) := ⟨hl2', hgb, hlo, hs⟩
          clear hl2' hov hs hgb
          go_wp2_with (first | (go_at_call 67; refine hLg.mono ?_; rintro e w4 ⟨rfl, hg, k4⟩))
          go_roundw
          case rel => exact ⟨k + 1, l2, hi + 1, rfl, by first | rfl | go_num, by go_num, by have := HK.out; omega, by have := HL2.out; omega, by have := HL2.out; omega, by unfold Hid; rw [H2.out]; congr 1; have := HL2.out.1; omega, kr.trans k4⟩
          case measure => have := HK.out; simp [intOf]; omega
      · have hec : (out != (o : Int)) = true := by rw [bne, beq_eq_false_iff_ne.2 he]; rfl
        have H2 : Hid (G = rmF (o : Int) ts (ts.length - (k + 1)) (k + 1) (lo + 18446744073709551616 * hi)) := by unfold Hid; rw [H.out, H1.out, if_neg he]
        clear he H1 H
        go_wp2_with fail
        go_roundw
        case rel => exact ⟨k + 1, lo, hi, rfl, rfl, by go_num, by have := HK.out; omega, hlo, by omega, H2, kr⟩
        case measure => have := HK.out; simp [intOf]; omega
    · have hltc : ¬ (k : Int) < (ts.length : Int) := by omega
      have H1 : Hid (G = lo + 18446744073709551616 * hi) := by unfold Hid; rw [H.out, show ts.length - k = 0 by omega]; rfl
      have hhi : hi < 18446744073709551616 := by omega
      have a1 := Li.and64 lo hlo
      have a2 := Li.and64 hi hhi
      clear hlt
      go_wp2_with fail
      have hrow : Li.Row (wr.alloc (Obj.cells #[Value.int IntKind.u32 (↑lo % 4294967296), Value.int IntKind.u32 (↑lo / 4294967296), Value.int IntKind.u32 (↑hi % 4294967296), Value.int IntKind.u32 (↑hi / 4294967296)] 115)) wr.heap.size [lo % 4294967296, lo / 4294967296, hi % 4294967296, hi / 4294967296] := by
        unfold Li.Row; rw [heap_alloc_new]; simp [Li.U]
      have hkk : Keep wr (wr.alloc (Obj.cells #[Value.int IntKind.u32 (↑lo % 4294967296), Value.int IntKind.u32 (↑lo / 4294967296), Value.int IntKind.u32 (↑hi % 4294967296), Value.int IntKind.u32 (↑hi / 4294967296)] 115)) := (Keep.refl wr).alloc _
      generalize wr.alloc _ = w5 at hrow hkk ⊢
      refine (Li.rNorm_any (some ⟨wr.heap.size, 0, none⟩) 4 [lo % 4294967296, lo / 4294967296, hi % 4294967296, hi / 4294967296] w5 (by simp) (by simp) (hrow.rd 0 4 (by simp))).mono ?_
      rintro e w6 ⟨v, rfl, hown, hk6⟩
      obtain ⟨a, c, e, hc, hr⟩ := hown.shape
      replace e : Hid _ := e
      go_wp2
      go_ret2
      refine ⟨v, rfl, ⟨a, c, _, e.out, hc, hr, Lb.Lim_take (by intro x hx; simp at hx; omega) _, Lb.Nrm_take _, ?_⟩, by rw [H1.out]; omega, (k1.trans kr).trans (hkk.trans hk6)⟩
      rw [H1.out, Lb.val_take_nl]
      simp [Lb.val]
      omega
end Go.Proofs.YtodegcobkngmlaaGreatDoor
