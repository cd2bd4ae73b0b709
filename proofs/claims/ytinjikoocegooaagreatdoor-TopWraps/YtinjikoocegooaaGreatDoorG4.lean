import Derived.Test.YtinjikoocegooaaGreatDoorProg
import Derived.Test.YtinjikoocegooaaGreatDoorE1
import Derived.Test.YtinjikoocegooaaGreatDoorLC10
import Derived.WalkKit
import Derived.WalkSpells
import Derived.WalkLawsBesides
import Derived.Deep.Draws
import Derived.Deep.QuietTactic
import Derived.BigQuiet
import Derived.Laws.Externs
import Derived.Laws.CopyOwn
import Derived.Shelf.Abstract
import Derived.Deep.RegionLaw
import Derived.BigRegion
import Derived.Deep.RegionHeld3
import Derived.RangeFuncBox
import Derived.RangeFuncLeaves
import Derived.RangeFuncCalls
import Derived.RangeFuncRecord
import Derived.Below
import Derived.OwnWalkIn
import Derived.TacticsInMore
import Derived.LoopNIn
import Derived.LoopIn
import Derived.Sort.LoopGhostIn
import Derived.Deep.RegionWith
import Derived.Stop.RegionWithIn
import Derived.Laws.MathBits
set_option linter.unusedVariables false
set_option linter.unusedSimpArgs false
namespace Go.Proofs.YtinjikoocegooaaGreatDoor
open Go.RowKit Go.Shelf
attribute [local go_sem] run_store_func run_store_float
theorem amount_neg (v : Int) (h : v < 0) (hb : -9223372036854775808 ≤ v) : IntKind.u64.wrap (-(IntKind.u64.wrap v)) = (v.natAbs : Int) := by
  rw [IntKind.wrap_u64, IntKind.wrap_u64]
  omega
theorem amount_any (v : Int) (hv : -9223372036854775808 ≤ v ∧ v ≤ 9223372036854775807) (w : World) : Calls Tryz.prog 26 #[.int .i64 v] w fun e w' => e = .returned (.int .u64 (v.natAbs : Nat)) ∧ w' = w := by
  by_cases h : v < 0
  · have h1 := amount_neg v h hv.1
    go_enter Tryz.func26, Tryz.ntmps26
    go_wp2
    go_ret
    exact ⟨rfl, rfl⟩
  · have h1 : IntKind.u64.wrap v = (v.natAbs : Int) := by rw [IntKind.wrap_u64]; omega
    go_enter Tryz.func26, Tryz.ntmps26
    go_wp2
    go_ret
    exact ⟨rfl, rfl⟩
/-- The greatest amount of the leaves. -/
def lgF (L : List Nd) : Nat → Nat → Nat → Nat
  | 0, _, m => m
  | f + 1, k, m => lgF L f (k + 1) (if kdB (L.getD k nd0) 1 = true ∧ m < (L.getD k nd0).vl.natAbs then (L.getD k nd0).vl.natAbs else m)
def lg (L : List Nd) : Nat := lgF L L.length 0 0
set_option maxRecDepth 100000 in
set_option maxHeartbeats 1000000 in
theorem Largest_any (out : Int) (na : Option Addr) (nc : Nat) (L : List Nd) (w : World) (hL : L.length ≤ 1759218604441) (hr : RdN w na L) :
    Calls Tryz.prog 28 #[.agg #[.int .i64 out, .slice na L.length nc]] w fun e w' => e = .returned (.int .u64 (lg L : Nat)) ∧ lg L ≤ 9223372036854775808 ∧ Keep w w' := by
  obtain ⟨w1, hw1, k1, t1, s1⟩ := boxed w #[.int .i64 out, .slice na L.length nc] 48
  obtain ⟨c0, c1, -, -⟩ := cells2 t1
  have HL : Hid (lg L = lgF L L.length 0 0) := rfl
  generalize lg L = G at HL ⊢
  go_enter Tryz.func28, Tryz.ntmps28
  go_wp2_with (rw [hw1])
  clear c0 c1
  go_loopw [3, 9] (fun v i wr => ∃ k m : Nat, v = .int .u64 (m : Int) ∧ i = .int .i64 (k : Int) ∧ k ≤ L.length ∧ m ≤ 9223372036854775808 ∧ Hid (G = lgF L (L.length - k) k m) ∧ Keep w wr) (fun v i wr => L.length - (intOf i).toNat)
  case atStart => exact ⟨0, 0, rfl, rfl, by omega, by omega, HL, k1⟩
  case round =>
    obtain ⟨k, m, rfl, rfl, hk, hm, H, kr⟩ := hrel
    by_cases hlt : k < L.length
    · have hltc : (k : Int) < (L.length : Int) := by omega
      obtain ⟨b, o, ca, cap, rfl, hA⟩ := (hr.keep kr) k hlt
      have H1 : Hid (lgF L (L.length - k) k m = lgF L (L.length - (k + 1)) (k + 1) (if kdB (L.getD k nd0) 1 = true ∧ m < (L.getD k nd0).vl.natAbs then (L.getD k nd0).vl.natAbs else m)) := by
        rw [show L.length - k = (L.length - (k + 1)) + 1 by omega, lgF]; rfl
      have HK : Hid (k < L.length) := hlt
      clear hlt
      generalize L.getD k nd0 = n at hA H1
      obtain ⟨a0, a1, a2, a3, a4, a5, a6, a7, hrd, hcp, hsz, hok⟩ := hA
      obtain ⟨w3, hw3, k3, t3, s3⟩ := boxed wr (nvs n ca cap) 81
      obtain ⟨d0, d1, -⟩ := cells8 t3
      have hAm := amount_any n.vl hok.vl w3
      have hab : n.vl.natAbs ≤ 9223372036854775808 := by have := hok.vl; omega
      have e1 : ((n.kd : Int) == 1) = kdB n 1 := kd_int n 1
      generalize n.vl.natAbs = z at hAm H1 hab
      clear hok
      cases h1 : kdB n 1 with
      | false =>
        rw [h1] at e1 H1
        clear h1
        go_wp2_with fail
        go_roundw
        case rel => exact ⟨k + 1, m, rfl, by go_num, by have := HK.out; omega, hm, by unfold Hid; rw [H.out, H1.out, if_neg (by simp)], kr.trans k3⟩
        case measure => have := HK.out; simp [intOf]; omega
      | true =>
        rw [h1] at e1 H1
        clear h1
        by_cases hmz : m < z
        · have hmx : max (m : Int) (z : Int) = (z : Int) := by omega
          go_wp2_with (go_at_call 26; refine hAm.mono ?_; rintro e w0 ⟨rfl, rfl⟩)
          go_roundw
          case rel => exact ⟨k + 1, z, rfl, by go_num, by have := HK.out; omega, hab, by unfold Hid; rw [H.out, H1.out, if_pos ⟨trivial, hmz⟩], kr.trans k3⟩
          case measure => have := HK.out; simp [intOf]; omega
        · have hmx : max (m : Int) (z : Int) = (m : Int) := by omega
          go_wp2_with (go_at_call 26; refine hAm.mono ?_; rintro e w0 ⟨rfl, rfl⟩)
          go_roundw
          case rel => exact ⟨k + 1, m, rfl, by go_num, by have := HK.out; omega, hm, by unfold Hid; rw [H.out, H1.out, if_neg (fun h => hmz h.2)], kr.trans k3⟩
          case measure => have := HK.out; simp [intOf]; omega
    · have hltc : ¬ (k : Int) < (L.length : Int) := by omega
      have H1 : Hid (G = m) := by unfold Hid; rw [H.out, show L.length - k = 0 by omega]; rfl
      clear hlt
      go_wp2_with fail
      go_ret
      exact ⟨by rw [H1.out]; rfl, by rw [H1.out]; exact hm, kr⟩
end Go.Proofs.YtinjikoocegooaaGreatDoor
set_option linter.unusedVariables false
set_option linter.unusedSimpArgs false
namespace Go.Proofs.YtinjikoocegooaaGreatDoor
open Go.RowKit Go.Shelf
attribute [local go_sem] run_store_func run_store_float
/-- A natural as a value, normal. -/
def NatV (w : World) (v : Value) (n : Nat) : Prop := ∃ a c l, v = .slice a l.length c ∧ l.length ≤ c ∧ Li.Rd w a l ∧ Lb.Lim l ∧ Lb.Nrm l ∧ Lb.val l = n
theorem NatV.keep {w w' : World} {v : Value} {n : Nat} (h : NatV w v n) (k : Keep w w') : NatV w' v n := by
  obtain ⟨a, c, l, h1, h2, h3, h4⟩ := h
  exact ⟨a, c, l, h1, h2, h3.keep k, h4⟩
theorem nat_len {l : List Nat} (h : Lb.Nrm l) (hv : Lb.val l < 340282366920938463463374607431768211456) : l.length ≤ 4 := by
  by_cases h5 : l.length ≤ 4
  · exact h5
  · have h1 := Lb.val_ge h (by intro e; rw [e] at h5; simp at h5)
    have h2 : 4294967296 ^ 4 ≤ 4294967296 ^ (l.length - 1) := Nat.pow_le_pow_right (by omega) (by omega)
    have h3 : (4294967296 : Nat) ^ 4 = 340282366920938463463374607431768211456 := by decide
    omega
theorem From_nv (n : Nat) (w : World) (hn : n < 18446744073709551616) : Calls Tryz.prog 18 #[.int .u64 (n : Nat)] w fun e w' => ∃ v, e = .returned v ∧ NatV w' v n ∧ Keep w w' := by
  refine (Li.From_any n w hn).mono ?_
  rintro e w' ⟨v, l, rfl, hR, h1, h2, h3, k⟩
  obtain ⟨a, c, e, hc, hr⟩ := hR.shape
  exact ⟨v, rfl, ⟨a, c, l, e, hc, hr, h1, h2, h3⟩, k⟩
theorem Add_nv (x y : Nat) (vx vy : Value) (w : World) (hx : NatV w vx x) (hy : NatV w vy y) (hbx : x < 340282366920938463463374607431768211456) (hby : y < 340282366920938463463374607431768211456) : Calls Tryz.prog 27 #[vx, vy] w fun e w' => ∃ v, e = .returned v ∧ NatV w' v (x + y) ∧ Keep w w' := by
  obtain ⟨a, c, l, rfl, h1, h2, h3, h4, rfl⟩ := hx
  obtain ⟨a', c', l', rfl, h1', h2', h3', h4', rfl⟩ := hy
  have q1 := nat_len h4 hbx
  have q2 := nat_len h4' hby
  refine (Li.Add_any a a' c c' l l' w h1 h1' (by omega) (by omega) h2 h2' h3 h3').mono ?_
  rintro e w' ⟨v, rfl, ⟨m, hR, m1, m2, m3⟩, k⟩
  obtain ⟨b, d, e, hc, hr⟩ := hR.shape
  exact ⟨v, rfl, ⟨b, d, m, e, hc, hr, m1, m2, m3⟩, k⟩
theorem nrm_take {l : List Nat} (h : Lb.Nrm l) (hl : Lb.Lim l) : l.take (Lb.nl l) = l := by
  exact Lb.val_inj (Lb.Lim_take hl _) hl (Lb.Nrm_take l) h (Lb.val_take_nl l)
theorem Cmp_nv (x y : Nat) (vx vy : Value) (w : World) (hx : NatV w vx x) (hy : NatV w vy y) (hbx : x < 340282366920938463463374607431768211456) (hby : y < 340282366920938463463374607431768211456) : Calls Tryz.prog 11 #[vx, vy] w fun e w' => (∃ c : Int, e = .returned (.int .i64 c) ∧ (c < 0 ↔ x < y)) ∧ Keep w w' := by
  obtain ⟨a, c, l, rfl, h1, h2, h3, h4, rfl⟩ := hx
  obtain ⟨a', c', l', rfl, h1', h2', h3', h4', rfl⟩ := hy
  have q1 := nat_len h4 hbx
  have q2 := nat_len h4' hby
  refine (Li.Cmp_any a a' c c' l l' w h1 h1' (by omega) (by omega) h2 h2').mono ?_
  rintro e w' ⟨rfl, k⟩
  refine ⟨⟨_, rfl, ?_⟩, k.keep⟩
  rw [nrm_take h4 h3, nrm_take h4' h3']
  by_cases h : Lb.val l < Lb.val l'
  · rw [Li.cmpL_lt h3 h3' h4 h4' h]; exact ⟨fun _ => h, fun _ => by decide⟩
  · have := Li.cmpL_ge h3 h3' h4 h4' h; exact ⟨fun q => by omega, fun q => absurd q h⟩
end Go.Proofs.YtinjikoocegooaaGreatDoor
set_option linter.unusedVariables false
set_option linter.unusedSimpArgs false
namespace Go.Proofs.YtinjikoocegooaaGreatDoor
open Go.RowKit Go.Shelf
attribute [local go_sem] run_store_func run_store_float
/-- What the trees of an output add to its room. -/
def rmF (o : Int) (ts : List (Int × List Nd)) : Nat → Nat → Nat → Nat
  | 0, _, s => s
  | f + 1, k, s => rmF o ts f (k + 1) (if (ts.getD k (0, [])).1 = o then s + lg (ts.getD k (0, [])).2 else s)
def rm (base : List Int) (ts : List (Int × List Nd)) (o : Nat) : Nat := rmF (o : Int) ts ts.length 0 (base.getD o 0).natAbs
set_option maxRecDepth 100000 in
set_option maxHeartbeats 2000000 in
theorem Room_any (nm : ByteArray) (fa : Option Addr) (Fn cf : Nat) (N : Int) (ba : Option Addr) (base : List Int) (cb : Nat) (ta : Option Addr) (ts : List (Int × List Nd)) (ct : Nat) (o : Nat) (w : World) (ho : o < base.length) (hbl : base.length ≤ 17592186044416) (hb : RdI w ba base) (hbb : ∀ x ∈ base, -9223372036854775808 ≤ x ∧ x ≤ 9223372036854775807) (htl : ts.length ≤ 4398046511104) (hts : ∀ j, j < ts.length → (ts.getD j (0, [])).2.length ≤ 1759218604441) (ht : RdT w ta ts) :
    Calls Tryz.prog 10 #[.agg (ev nm fa Fn cf N ba base.length cb ta ts.length ct), .int .i64 (o : Int)] w fun e w' => ∃ v, e = .returned (.tuple #[v, .int .i64 0]) ∧ NatV w' v (rm base ts o) ∧ rm base ts o ≤ 9223372036854775808 * (4398046511104 + 1) ∧ Keep w w' := by
  have HR : Hid (rm base ts o = rmF (o : Int) ts ts.length 0 (base.getD o 0).natAbs) := rfl
  generalize rm base ts o = G at HR ⊢
  have hbo := hbb (base.getD o 0) (by simp [List.getD, ho])
  obtain ⟨b0, o0, rfl, x0⟩ := hb o ho
  have hzb : (base.getD o 0).natAbs ≤ 9223372036854775808 := by omega
  obtain ⟨w1, hw1, k1, t1, s1⟩ := boxed w (ev nm fa Fn cf N (some ⟨b0, o0, none⟩) base.length cb ta ts.length ct) 26
  obtain ⟨-, -, -, c3, c4⟩ := cells5 t1
  have x1 := k1.cell x0
  generalize base.getD o 0 = z at hbo x1 HR hzb
  have hAm := amount_any z hbo w1
  generalize z.natAbs = za at hAm HR hzb
  have hFr := From_nv za w1 (by omega)
  have hl1 : decide ((o : Int) < 0) = false := decide_eq_false (by omega)
  have hl2 : decide ((base.length : Int) ≤ (o : Int)) = false := decide_eq_false (by omega)
  have hoc : (o : Int) < (base.length : Int) := by omega
  clear hbo x0 hbb
  go_enter Tryz.func10, Tryz.ntmps10
  go_wp2_with (first | rw [hw1] | (go_at_call 26; refine hAm.mono ?_; rintro e wx ⟨rfl, hx⟩; rw [hx]; clear hx wx) | (go_at_call 18; refine hFr.mono ?_; rintro e w2 ⟨v2, rfl, N2, k2⟩; have c4' := k2.cell c4; have c3' := k2.cell c3))
  clear c3 c4 c3' c4'
  go_loopw [6, 28] (fun v i wr => ∃ k s : Nat, i = .int .i64 (k : Int) ∧ k ≤ ts.length ∧ s ≤ 9223372036854775808 * (k + 1) ∧ NatV wr v s ∧ Hid (G = rmF (o : Int) ts (ts.length - k) k s) ∧ Keep w2 wr) (fun v i wr => ts.length - (intOf i).toNat)
  case atStart => exact ⟨0, za, rfl, by omega, by omega, N2, HR, Keep.refl _⟩
  case round =>
    obtain ⟨k, s, rfl, hk, hs, Nv, H, kr⟩ := hrel
    by_cases hlt : k < ts.length
    · have hltc : (k : Int) < (ts.length : Int) := by omega
      have hl := hts k hlt
      have kwr := k1.trans (k2.trans kr)
      obtain ⟨b, p, na, nc, rfl, y0, y1, hrn, hcp⟩ := (ht.keep kwr) k hlt
      have H1 : Hid (rmF (o : Int) ts (ts.length - k) k s = rmF (o : Int) ts (ts.length - (k + 1)) (k + 1) (if (ts.getD k (0, [])).1 = (o : Int) then s + lg (ts.getD k (0, [])).2 else s)) := by
        rw [show ts.length - k = (ts.length - (k + 1)) + 1 by omega, rmF]; rfl
      have HK : Hid (k < ts.length) := hlt
      clear hlt hcp
      generalize ts.getD k (0, []) = tk at y0 y1 hrn H1 hl
      obtain ⟨out, L⟩ := tk
      simp only at y0 y1 hrn H1 hl
      obtain ⟨w3, hw3, k3, t3, s3⟩ := boxed wr #[.int .i64 out, .slice na L.length nc] 48
      obtain ⟨d0, d1, -, -⟩ := cells2 t3
      by_cases he : out = (o : Int)
      · have hec : (out == (o : Int)) = true := by rw [beq_iff_eq]; exact he
        have H2 : Hid (G = rmF (o : Int) ts (ts.length - (k + 1)) (k + 1) (s + lg L)) := by unfold Hid; rw [H.out, H1.out, if_pos he]
        have hLg := Largest_any out na nc L w3 hl (hrn.keep k3)
        clear he H1
        generalize lg L = g at hLg H2
        go_wp2_with (first
          | (go_at_call 28; refine hLg.mono ?_; rintro e w4 ⟨rfl, hg, k4⟩
             have hF2 := From_nv g w4 (by omega))
          | (go_at_call 18; refine hF2.mono ?_; rintro e w5 ⟨v5, rfl, N5, k5⟩
             have k35 := k3.trans (k4.trans k5)
             have hAd := Add_nv s g _ v5 w5 (Nv.keep k35) N5 (by omega) (by omega))
          | (go_at_call 27; refine hAd.mono ?_; rintro e w6 ⟨v6, rfl, N6, k6⟩))
        go_roundw
        case rel => exact ⟨k + 1, s + g, by go_num, by have := HK.out; omega, by omega, N6, H2, kr.trans (k35.trans k6)⟩
        case measure => have := HK.out; simp [intOf]; omega
      · have hec : (out == (o : Int)) = false := by rw [beq_eq_false_iff_ne]; exact he
        have H2 : Hid (G = rmF (o : Int) ts (ts.length - (k + 1)) (k + 1) s) := by unfold Hid; rw [H.out, H1.out, if_neg he]
        clear he H1
        go_wp2_with fail
        go_roundw
        case rel => exact ⟨k + 1, s, by go_num, by have := HK.out; omega, by omega, Nv.keep k3, H2, kr.trans k3⟩
        case measure => have := HK.out; simp [intOf]; omega
    · have hltc : ¬ (k : Int) < (ts.length : Int) := by omega
      have H1 : Hid (G = s) := by unfold Hid; rw [H.out, show ts.length - k = 0 by omega]; rfl
      clear hlt
      go_wp2_with fail
      go_ret2
      refine ⟨_, rfl, by rw [H1.out]; exact Nv, by rw [H1.out]; omega, k1.trans (k2.trans kr)⟩
end Go.Proofs.YtinjikoocegooaaGreatDoor
set_option linter.unusedVariables false
set_option linter.unusedSimpArgs false
namespace Go.Proofs.YtinjikoocegooaaGreatDoor
open Go.RowKit Go.Shelf
attribute [local go_sem] run_store_func run_store_float
/-- What of an ensemble can be read. -/
structure EnR (w : World) (ba : Option Addr) (base : List Int) (ta : Option Addr) (ts : List (Int × List Nd)) : Prop where
  bl : base.length ≤ 17592186044416
  rb : RdI w ba base
  bb : ∀ x ∈ base, -9223372036854775808 ≤ x ∧ x ≤ 9223372036854775807
  tl : ts.length ≤ 4398046511104
  tn : ∀ j, j < ts.length → (ts.getD j (0, [])).2.length ≤ 1759218604441
  rt : RdT w ta ts
theorem EnR.keep {w w' : World} {ba : Option Addr} {base : List Int} {ta : Option Addr} {ts : List (Int × List Nd)} (h : EnR w ba base ta ts) (k : Keep w w') : EnR w' ba base ta ts := ⟨h.bl, h.rb.keep k, h.bb, h.tl, h.tn, h.rt.keep k⟩
def okS (base : List Int) (ts : List (Int × List Nd)) (o : Nat) : Bool := decide (rm base ts o < 4611686018427387904)
set_option maxRecDepth 100000 in
set_option maxHeartbeats 1000000 in
theorem out_ans {w : World} {ge go : Nat} {nm : ByteArray} {fa : Option Addr} {Fn cf : Nat} {N : Int} {ba : Option Addr} {base : List Int} {cb : Nat} {ta : Option Addr} {ts : List (Int × List Nd)} {ct o : Nat}
    (he : w.heap[ge]? = some (.cells (ev nm fa Fn cf N ba base.length cb ta ts.length ct) 26 (0, 0))) (hg : w.heap[go]? = some (.cells #[.int .i64 (o : Int)] 3 (0, 0))) (ho : o < base.length) (hE : EnR w ba base ta ts) : Ans w (31, 65, #[pv ge, pv go]) (okS base ts o) := by
  refine ⟨fun wx => by kernel_rfl, fun wx k => ?_⟩
  obtain ⟨c0, c1, c2, c3, c4⟩ := cells5 (k.at he)
  obtain ⟨d0, -⟩ := cells1 (k.at hg)
  have hEx := hE.keep k
  have hRm := Room_any nm fa Fn cf N ba base cb ta ts ct o wx ho hEx.bl hEx.rb hEx.bb hEx.tl hEx.tn hEx.rt
  have HO : Hid (okS base ts o = decide (rm base ts o < 4611686018427387904)) := rfl
  generalize okS base ts o = O at HO ⊢
  generalize rm base ts o = r at hRm HO
  show Calls Tryz.prog 65 #[.pointer (some ⟨ge, 0, none⟩), .pointer (some ⟨go, 0, none⟩)] wx _
  go_enter Tryz.func65, Tryz.ntmps65
  go_wp2_with (first
    | (go_at_call 10; refine hRm.mono ?_; rintro e w1 ⟨v1, rfl, N1, hb1, k1⟩
       have hFr := From_nv 4611686018427387904 w1 (by omega))
    | (go_at_call 18; refine hFr.mono ?_; rintro e w2 ⟨v2, rfl, N2, k2⟩
       have hCm := Cmp_nv r 4611686018427387904 v1 v2 w2 (N1.keep k2) N2 (by omega) (by omega))
    | (go_at_call 11; refine hCm.mono ?_; rintro e w3 ⟨⟨c, rfl, hc⟩, k3⟩; replace hc : Hid _ := hc))
  go_ret
  refine ⟨?_, k1.trans (k2.trans k3)⟩
  rw [HO.out]
  refine ret_bool ?_
  rw [decide_eq_decide]
  exact hc.out
/-- The outputs' rule, one by one. -/
def ouF (base : List Int) (ts : List (Int × List Nd)) : Nat → Nat → Bk
  | 0, _ => (0, 0, 0)
  | f + 1, k => if okS base ts k = true then ouF base ts f (k + 1) else (31, -1, (k : Int))
def ouB (base : List Int) (ts : List (Int × List Nd)) : Bk := ouF base ts base.length 0
structure OIu (w wr : World) (cs : Array Value) : Prop where
  kp : Keep w wr
  b0 : wr.heap[w.heap.size]? = some (.cells cs 26 (0, 0))
  b1 : wr.heap[w.heap.size + 1]? = some (.cells #[.int .i64 0, .int .i64 0, .int .i64 0] 58 (0, 0))
  b2 : ∃ v, wr.heap[w.heap.size + 1 + 1]? = some (.cells #[v] 3 (0, 0))
  b3 : wr.heap[w.heap.size + 1 + 1 + 1]? = some (.cells #[.int .i64 31, .func (.func 65) #[] #[pv w.heap.size, pv (w.heap.size + 1 + 1)]] 101 (0, 0))
theorem OIu.keep {w wr w' : World} {cs : Array Value} (h : OIu w wr cs) (q : Keep wr w') : OIu w w' cs := by
  obtain ⟨v, hv⟩ := h.b2
  exact ⟨h.kp.trans q, q.at h.b0, q.at h.b1, ⟨v, q.at hv⟩, q.at h.b3⟩
theorem OIu.num {w wr : World} {cs : Array Value} (h : OIu w wr cs) (v : Value) : OIu w (wr.setCell ⟨w.heap.size + 1 + 1, 0, none⟩ v) cs ∧ (wr.setCell ⟨w.heap.size + 1 + 1, 0, none⟩ v).heap[w.heap.size + 1 + 1]? = some (.cells #[v] 3 (0, 0)) := by
  have e := neq_set wr (w.heap.size + 1 + 1) 0 v
  obtain ⟨x, hv⟩ := h.b2
  have hn := heap1 wr _ v hv
  exact ⟨⟨h.kp.setCell (p := ⟨w.heap.size + 1 + 1, 0, none⟩) (by show w.heap.size ≤ w.heap.size + 1 + 1; omega) _, (e _ (by omega)).trans h.b0, (e _ (by omega)).trans h.b1, ⟨_, hn⟩, (e _ (by omega)).trans h.b3⟩, hn⟩
set_option maxRecDepth 100000 in
set_option maxHeartbeats 2000000 in
theorem ofOutputs_any (nm : ByteArray) (fa : Option Addr) (Fn cf : Nat) (ba : Option Addr) (base : List Int) (cb : Nat) (ta : Option Addr) (ts : List (Int × List Nd)) (ct : Nat) (w : World) (hE : EnR w ba base ta ts) :
    Calls Tryz.prog 40 #[.agg (ev nm fa Fn cf (base.length : Int) ba base.length cb ta ts.length ct)] w fun e w' => e = .returned (bkV (ouB base ts)) ∧ Keep w w' := by
  obtain ⟨B, HB⟩ : ∃ B, Hid (B = ouF base ts base.length 0) := ⟨_, rfl⟩
  have HG : Hid (ouB base ts = B) := HB.out.symm
  rw [HG.out]
  clear HG
  have hbl := hE.bl
  obtain ⟨w1, hw1, k1, t1, s1⟩ := boxed w (ev nm fa Fn cf (base.length : Int) ba base.length cb ta ts.length ct) 26
  obtain ⟨w2, hw2, k2, t2, s2⟩ := boxed w1 #[.int .i64 0, .int .i64 0, .int .i64 0] 58
  obtain ⟨w3, hw3, k3, t3, s3⟩ := boxed w2 #[.int .i64 0] 3
  rw [s1] at t2 s2
  rw [s2] at t3 s3
  obtain ⟨w4, hw4, k4, t4, s4⟩ := boxed w3 #[.int .i64 31, .func (.func 65) #[] #[pv w.heap.size, pv (w.heap.size + 1 + 1)]] 101
  rw [s3] at t4 s4
  have k14 := k2.trans (k3.trans k4)
  have hI : OIu w w4 (ev nm fa Fn cf (base.length : Int) ba base.length cb ta ts.length ct) := ⟨k1.trans k14, k14.at t1, (k3.trans k4).at t2, ⟨_, k4.at t3⟩, t4⟩
  obtain ⟨z0, z1, z2, z3, z4⟩ := cells5 hI.b0
  replace hI : Hid _ := hI
  clear t1 t2 t3 t4
  go_enter Tryz.func40, Tryz.ntmps40
  go_wp2_with (first | rw [hw1] | rw [hw2] | rw [hw3])
  clear z0 z1 z2 z3 z4
  go_loopw [11] (fun i wr => ∃ k : Nat, i = .int .i64 (k : Int) ∧ k ≤ base.length ∧ Hid (B = ouF base ts (base.length - k) k) ∧ Hid (OIu w wr (ev nm fa Fn cf (base.length : Int) ba base.length cb ta ts.length ct))) (fun i wr => base.length - (intOf i).toNat)
  case atStart => exact ⟨0, rfl, by omega, HB, hI⟩
  case round =>
    obtain ⟨k, rfl, hk, H, I⟩ := hrel
    by_cases hlt : k < base.length
    · have hltc : (k : Int) < (base.length : Int) := by omega
      obtain ⟨v2, hv2⟩ := I.out.b2
      obtain ⟨d2, f2⟩ := cells1 hv2
      have H1 : Hid (ouF base ts (base.length - k) k = if okS base ts k = true then ouF base ts (base.length - (k + 1)) (k + 1) else (31, -1, (k : Int))) := by
        rw [show base.length - k = (base.length - (k + 1)) + 1 by omega, ouF]; rfl
      have HK : Hid (k < base.length) := hlt
      obtain ⟨I7, n7⟩ := I.out.num (.int .i64 (k : Int))
      obtain ⟨w7, hw7⟩ : ∃ w7, wr.setCell ⟨w.heap.size + 1 + 1, 0, none⟩ (.int .i64 (k : Int)) = w7 := ⟨_, rfl⟩
      rw [hw7] at I7 n7
      obtain ⟨a2, -⟩ := cells1 n7
      have hR : RdR w7 (some ⟨w.heap.size + 1 + 1 + 1, 0, none⟩) [(31, 65, #[pv w.heap.size, pv (w.heap.size + 1 + 1)])] := rdR_of I7.b3 (by
        intro j hj
        match j, hj with
        | 0, _ => exact ⟨rfl, rfl⟩)
      have hF := first_any (some ⟨w.heap.size + 1 + 1 + 1, 0, none⟩) 1 _ (bsl [okS base ts k]) (-1) (k : Int) w7 hR (by simp) (by
        intro j hj
        match j, hj with
        | 0, _ => exact out_ans I7.b0 n7 hlt (hE.keep I7.kp))
      have HE : Hid (fsB [(31, 65, #[pv w.heap.size, pv (w.heap.size + 1 + 1)])] (bsl [okS base ts k]) (-1) (k : Int) = if okS base ts k = true then (0, 0, 0) else (31, -1, (k : Int))) := rfl
      rw [HE.out] at hF
      clear HE hR hlt
      cases hb : okS base ts k with
      | true =>
        rw [hb] at hF H1
        change Calls Tryz.prog 54 _ w7 (fun e w' => e = .returned (.agg #[.int .i64 0, .int .i64 0, .int .i64 0]) ∧ Keep w7 w') at hF
        go_wp2_with (first
          | (go_at_call 54; refine hF.mono ?_; rintro e w8 ⟨rfl, k8⟩
             obtain ⟨w9, wA, hw9, hwA, kA, tA, q0, q1, q2, g0, g1, g2⟩ := boxB w8 (.int .i64 0) (.int .i64 0) (.int .i64 0)
             obtain ⟨c0, c1, c2, -, -, -⟩ := cells3 tA))
        go_roundw
        case rel => exact ⟨k + 1, by go_num, by have := HK.out; omega, by unfold Hid; rw [H.out, H1.out, if_pos trivial], (I7.keep k8).keep kA⟩
        case measure => have := HK.out; simp [intOf]; omega
      | false =>
        rw [hb] at hF H1
        change Calls Tryz.prog 54 _ w7 (fun e w' => e = .returned (.agg #[.int .i64 31, .int .i64 (-1), .int .i64 (k : Int)]) ∧ Keep w7 w') at hF
        go_wp2_with (first
          | (go_at_call 54; refine hF.mono ?_; rintro e w8 ⟨rfl, k8⟩
             obtain ⟨w9, wA, hw9, hwA, kA, tA, q0, q1, q2, g0, g1, g2⟩ := boxB w8 (.int .i64 31) (.int .i64 (-1)) (.int .i64 (k : Int))
             obtain ⟨c0, c1, c2, -, -, -⟩ := cells3 tA
             have I9 := (I7.keep k8).keep kA
             obtain ⟨d0, d1, d3, p0, p1, p2⟩ := cells3 I9.b1))
        have h := heap3 wA (w.heap.size + 1) (.int .i64 31) (.int .i64 (-1)) (.int .i64 (k : Int)) I9.b1
        have kk := keep3 I9.kp (w.heap.size + 1) (by omega) (.int .i64 31) (.int .i64 (-1)) (.int .i64 (k : Int))
        refine bodyPost_ret (ret_bk rfl _ _ (w.heap.size + 1) _ _ _ rfl h) rfl ⟨?_, kk⟩
        rw [H.out, H1.out, if_neg (by simp)]
    · have hltc : ¬ (k : Int) < (base.length : Int) := by omega
      have H1 : Hid (B = (0, 0, 0)) := by unfold Hid; rw [H.out, show base.length - k = 0 by omega]; rfl
      obtain ⟨c0, c1, c2, f0, f1, f2⟩ := cells3 I.out.b1
      clear hlt
      go_wp2_with fail
      have h := heap3 wr (w.heap.size + 1) (.int .i64 0) (.int .i64 0) (.int .i64 0) I.out.b1
      have kk := keep3 I.out.kp (w.heap.size + 1) (by omega) (.int .i64 0) (.int .i64 0) (.int .i64 0)
      refine bodyPost_ret (ret_bk rfl _ _ (w.heap.size + 1) _ _ _ rfl h) rfl ⟨?_, kk⟩
      rw [H1.out]
end Go.Proofs.YtinjikoocegooaaGreatDoor
