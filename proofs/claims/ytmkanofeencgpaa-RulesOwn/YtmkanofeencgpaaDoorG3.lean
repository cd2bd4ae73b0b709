import Derived.Test.YtmkanofeencgpaaDoorG2
set_option linter.unusedVariables false
set_option linter.unusedSimpArgs false
namespace Go.Proofs.YtmkanofeencgpaaDoor
open Go.RowKit Go.Shelf
attribute [local go_sem] run_store_func run_store_float
/-- What the trees of an output add to its room. -/
def rmF (o : Int) (ts : List (Int × List Nd)) : Nat → Nat → Nat → Nat
  | 0, _, s => s
  | f + 1, k, s => rmF o ts f (k + 1) (if (ts.getD k (0, [])).1 = o then s + lg (ts.getD k (0, [])).2 else s)
def rm (base : List Int) (ts : List (Int × List Nd)) (o : Nat) : Nat := rmF (o : Int) ts ts.length 0 (base.getD o 0).natAbs
set_option maxRecDepth 100000 in
set_option maxHeartbeats 2000000 in
theorem Room_any (nm : ByteArray) (fa : Option Addr) (Fn cf : Nat) (N : Int) (ba : Option Addr) (base : List Int) (cb : Nat) (ta : Option Addr) (ts : List (Int × List Nd)) (ct : Nat) (o : Nat) (w : World) (ho : o < base.length) (hbl : base.length ≤ 17592186044416) (hb : RdI w ba base) (hbb : ∀ x ∈ base, -9223372036854775808 ≤ x ∧ x ≤ 9223372036854775807) (htl : ts.length ≤ 4398046511104) (hts : ∀ j, j < ts.length → (ts.getD j (0, [])).2.length ≤ 1759218604441) (ht : RdT w ta ts) :
    Calls Tryd.prog 14 #[.agg (ev nm fa Fn cf N ba base.length cb ta ts.length ct), .int .i64 (o : Int)] w fun e w' => ∃ v, e = .returned (.tuple #[v, .int .i64 0]) ∧ NatV w' v (rm base ts o) ∧ rm base ts o ≤ 9223372036854775808 * (4398046511104 + 1) ∧ Keep w w' := by
  have HR : Hid (rm base ts o = rmF (o : Int) ts ts.length 0 (base.getD o 0).natAbs) := rfl
  generalize rm base ts o = G at HR ⊢
  have hbo := hbb (base.getD o 0) (by simp [List.getD, ho])
  obtain ⟨b0, o0, rfl, x0⟩ := hb o ho
  have hzb : (base.getD o 0).natAbs ≤ 9223372036854775808 := by omega
  obtain ⟨w1, hw1, k1, t1, s1⟩ := boxed w (ev nm fa Fn cf N (some ⟨b0, o0, none⟩) base.length cb ta ts.length ct) 26
  obtain ⟨-, -, -, c3, c4⟩ := cells5 t1
  have x1 := k1.cell x0
  generalize base.getD o 0 = z at hbo x1 HR hzb
  have hAm := amount_any z hbo w1
  generalize z.natAbs = za at hAm HR hzb
  have hFr := From_nv za w1 (by omega)
  have hl1 : decide ((o : Int) < 0) = false := decide_eq_false (by omega)
  have hl2 : decide ((base.length : Int) ≤ (o : Int)) = false := decide_eq_false (by omega)
  have hoc : (o : Int) < (base.length : Int) := by omega
  clear hbo x0 hbb
  go_enter Tryd.func14, Tryd.ntmps14
  go_wp2_with (first | rw [hw1] | (go_at_call 37; refine hAm.mono ?_; rintro e wx ⟨rfl, hx⟩; rw [hx]; clear hx wx) | (go_at_call 36; refine hFr.mono ?_; rintro e w2 ⟨v2, rfl, N2, k2⟩; have c4' := k2.cell c4; have c3' := k2.cell c3))
  clear c3 c4 c3' c4'
  go_loopw [6, 28] (fun v i wr => ∃ k s : Nat, i = .int .i64 (k : Int) ∧ k ≤ ts.length ∧ s ≤ 9223372036854775808 * (k + 1) ∧ NatV wr v s ∧ Hid (G = rmF (o : Int) ts (ts.length - k) k s) ∧ Keep w2 wr) (fun v i wr => ts.length - (intOf i).toNat)
  case atStart => exact ⟨0, za, rfl, by omega, by omega, N2, HR, Keep.refl _⟩
  case round =>
    obtain ⟨k, s, rfl, hk, hs, Nv, H, kr⟩ := hrel
    by_cases hlt : k < ts.length
    · have hltc : (k : Int) < (ts.length : Int) := by omega
      have hl := hts k hlt
      have kwr := k1.trans (k2.trans kr)
      obtain ⟨b, p, na, nc, rfl, y0, y1, hrn, hcp⟩ := (ht.keep kwr) k hlt
      have H1 : Hid (rmF (o : Int) ts (ts.length - k) k s = rmF (o : Int) ts (ts.length - (k + 1)) (k + 1) (if (ts.getD k (0, [])).1 = (o : Int) then s + lg (ts.getD k (0, [])).2 else s)) := by
        rw [show ts.length - k = (ts.length - (k + 1)) + 1 by omega, rmF]; rfl
      have HK : Hid (k < ts.length) := hlt
      clear hlt hcp
      generalize ts.getD k (0, []) = tk at y0 y1 hrn H1 hl
      obtain ⟨out, L⟩ := tk
      simp only at y0 y1 hrn H1 hl
      obtain ⟨w3, hw3, k3, t3, s3⟩ := boxed wr #[.int .i64 out, .slice na L.length nc] 43
      obtain ⟨d0, d1, -, -⟩ := cells2 t3
      by_cases he : out = (o : Int)
      · have hec : (out == (o : Int)) = true := by rw [beq_iff_eq]; exact he
        have H2 : Hid (G = rmF (o : Int) ts (ts.length - (k + 1)) (k + 1) (s + lg L)) := by unfold Hid; rw [H.out, H1.out, if_pos he]
        have hLg := Largest_any out na nc L w3 hl (hrn.keep k3)
        clear he H1
        generalize lg L = g at hLg H2
        go_wp2_with (first
          | (go_at_call 17; refine hLg.mono ?_; rintro e w4 ⟨rfl, hg, k4⟩
             have hF2 := From_nv g w4 (by omega))
          | (go_at_call 36; refine hF2.mono ?_; rintro e w5 ⟨v5, rfl, N5, k5⟩
             have k35 := k3.trans (k4.trans k5)
             have hAd := Add_nv s g _ v5 w5 (Nv.keep k35) N5 (by omega) (by omega))
          | (go_at_call 38; refine hAd.mono ?_; rintro e w6 ⟨v6, rfl, N6, k6⟩))
        go_roundw
        case rel => exact ⟨k + 1, s + g, by go_num, by have := HK.out; omega, by omega, N6, H2, kr.trans (k35.trans k6)⟩
        case measure => have := HK.out; simp [intOf]; omega
      · have hec : (out == (o : Int)) = false := by rw [beq_eq_false_iff_ne]; exact he
        have H2 : Hid (G = rmF (o : Int) ts (ts.length - (k + 1)) (k + 1) s) := by unfold Hid; rw [H.out, H1.out, if_neg he]
        clear he H1
        go_wp2_with fail
        go_roundw
        case rel => exact ⟨k + 1, s, by go_num, by have := HK.out; omega, by omega, Nv.keep k3, H2, kr.trans k3⟩
        case measure => have := HK.out; simp [intOf]; omega
    · have hltc : ¬ (k : Int) < (ts.length : Int) := by omega
      have H1 : Hid (G = s) := by unfold Hid; rw [H.out, show ts.length - k = 0 by omega]; rfl
      clear hlt
      go_wp2_with fail
      go_ret2
      refine ⟨_, rfl, by rw [H1.out]; exact Nv, by rw [H1.out]; omega, k1.trans (k2.trans kr)⟩
end Go.Proofs.YtmkanofeencgpaaDoor
