import Derived.Test.YtodegcobkngmlaaGreatDoorCT3
import Derived.Deep.RegionLaw
set_option linter.unusedVariables false
set_option linter.unusedSimpArgs false
namespace Go.Proofs.YtodegcobkngmlaaGreatDoor
open Go.RowKit Go.Shelf
theorem OwnV.rd {B : Nat} {w : World} {g c : Nat} {l : List (Int × Int)} (h : OwnV B w (.slice (some ⟨g, 0, none⟩) l.length c) l) {o : Nat} {lo hi : Int} (ho : o < l.length) (hlh : l.getD o (0, 0) = (lo, hi)) : w.cell? ⟨g, o * 2, none⟩ = some (.int .i64 lo) ∧ w.cell? ⟨g, o * 2 + 1, none⟩ = some (.int .i64 hi) := by
  obtain ⟨g', c', e, -, hr⟩ := h.shape (by omega)
  simp only [Value.slice.injEq, Option.some.injEq, Addr.mk.injEq, and_true, true_and] at e
  obtain ⟨rfl, rfl⟩ := e
  exact hr o lo hi ho hlh
set_option maxRecDepth 100000 in
set_option maxHeartbeats 4000000 in
/-- The reference's spans behind n trees. -/
theorem rbehind_any (nm : ByteArray) (fa : Option Addr) (fs : List ByteArray) (cf : Nat) (ba : Option Addr) (base : List Int) (cb : Nat) (ta : Option Addr) (ts : List (Int × List Nd)) (ct : Nat) (ax : Option Addr) (xs : List Nat) (cx n : Nat) (w : World) (h : EnA w nm fa fs ba base ta ts) (hx : RdF w ax xs) (R : RtE (base.length : Int) base ts xs) (hxl : xs.length ≤ 17592186044416) (hn : n ≤ 1000000) (hV : ∀ k, k < ts.length → lfV (ts.getD k (0, [])).2 xs = vX xs (ts.getD k (0, [])).2) :
    Calls Tryz.prog 13 #[.agg (ev nm fa fs.length cf (base.length : Int) ba base.length cb ta ts.length ct), .slice ax xs.length cx, .int .i64 (n : Int)] w fun e w' => ∃ v, e = .returned v ∧ OwnV w.heap.size w' v (beL base ts (vX xs) n) ∧ Keep w w' := by
  obtain ⟨w1, hw1, k1, t1, s1⟩ := boxed w (ev nm fa fs.length cf (base.length : Int) ba base.length cb ta ts.length ct) 26
  have hn64 : base.length ≤ 64 := R.nl
  have htl : ts.length ≤ 65536 := R.tl
  have hb1 := h.er.rb
  have ht1 := h.er.rt
  have HB0 : Hid (rbL base ts (vX xs) n 0 = base.map fun b => (b, b)) := rbL_zero base ts (vX xs) n
  have HBA : Hid (rbL base ts (vX xs) n ts.length = beL base ts (vX xs) n) := rbL_all base ts (vX xs) n
  have HWZ : Hid (w.heap.size + 1 = w1.heap.size) := s1.symm
  replace s1 : Hid _ := s1
  go_enter Tryz.func13, Tryz.ntmps13
  go_wp2_with (rw [hw1])
  clear hw1
  go_loopw [7, 8] (fun v iv wr => ∃ k : Nat, iv = .int .i64 k ∧ k ≤ base.length ∧ OwnV w1.heap.size wr v ((base.take k).map fun b => (b, b)) ∧ Keep w1 wr) (fun _ iv _ => base.length - (intOf iv).toNat)
  case atStart => exact ⟨0, rfl, by omega, by simpa using OwnV.nil _ _, Keep.refl _⟩
  case round =>
    obtain ⟨k, rfl, hk, hown, kr⟩ := hrel
    obtain ⟨y0, y1, y2, y3, y4⟩ := cells5 (kr.at t1)
    by_cases hkl : k < base.length
    · have hkc : (k : Int) < (base.length : Int) := by omega
      obtain ⟨b, o, rfl, c0⟩ := ((hb1.keep k1).keep kr) k hkl
      have hnext : Hid (((base.take k).map fun b => (b, b)) ++ [(base.getD k 0, base.getD k 0)] = (base.take (k + 1)).map fun b => (b, b)) := by
        show _ = _
        rw [List.take_add_one, List.map_append]
        simp [List.getD, hkl]
      obtain ⟨x, hxv⟩ : ∃ x, base.getD k 0 = x := ⟨_, rfl⟩
      rw [hxv] at c0 hnext
      have hlen : ((base.take k).map fun b => (b, b)).length + 1 ≤ 4398046511104 := by simp; omega
      generalize ((base.take k).map fun b => (b, b)) = l at hown hnext hlen
      have own2 : OwnV w1.heap.size wr.drew u7 l := hown
      have HK : Hid (k < base.length) := hkl
      have hle := kr.le
      have kd : Keep w1 wr.drew := kr.drew
      clear hxv hkl hk
      go_wp2_with fail
      go_region_law (refine step_appV (B := w1.heap.size) rfl _ _ rfl l x x _ own2 (by exact hle) hlen rfl rfl ?_; intro v' w3 hown' hgr)
      all_goals
        have HO : Hid (OwnV w1.heap.size w3 v' ((base.take (k + 1)).map fun b => (b, b)) ∧ Keep w1 w3) := by
          refine ⟨by rw [← hnext.out]; exact hown', ?_⟩
          refine Below.grown (kd.alloc _) hgr (by have := kd.le; simp; omega) ?_
          intro g hg
          exact (own2.block hg).1
        clear hown' hgr
        go_simp
        go_wp2_with fail
        go_roundw
        case rel => exact ⟨k + 1, by go_num, by have := HK.out; omega, HO.out.1, HO.out.2⟩
        case measure => have := HK.out; simp [intOf]; omega
    · have hkc : ¬ (k : Int) < (base.length : Int) := by omega
      obtain rfl : k = base.length := by omega
      rw [List.take_length, ← HB0.out] at hown
      obtain ⟨g, c, rfl, hgB, -⟩ := hown.shape (by rw [rbL_len]; exact R.n1)
      rw [rbL_len] at hown ⊢
      obtain ⟨wo, hwo⟩ : ∃ wo, wo = wr := ⟨_, rfl⟩
      subst hwo
      go_wp2_with fail
      clear y0 y1 y2 y3 y4
      go_loopw [9] (fun iv wr => ∃ j : Nat, iv = .int .i64 j ∧ j ≤ ts.length ∧ OwnV w1.heap.size wr (.slice (some ⟨g, 0, none⟩) base.length c) (rbL base ts (vX xs) n j) ∧ Keep w1 wr) (fun iv _ => ts.length - (intOf iv).toNat)
      case atStart => exact ⟨0, rfl, by omega, hown, kr⟩
      case round =>
        clear hown
        obtain ⟨j, rfl, hj, hown, kq⟩ := hrel
        obtain ⟨y0, y1, y2, y3, y4⟩ := cells5 (kq.at t1)
        by_cases hjl : j < ts.length
        · have hjc : (j : Int) < (ts.length : Int) := by omega
          obtain ⟨b, o, na, nc, rfl, x0, x1, hrn, hnc⟩ := ((ht1.keep k1).keep kq) j hjl
          obtain ⟨q, hq, hql⟩ := R.ho j hjl
          have hln := R.tn j hjl
          have hvj := hV j hjl
          have hnx0 := rbL_next base ts (vX xs) n j q hjl hq hql
          have hfit := rbL_fit R.va n j q hql (R.rm q hql)
          have hfit2 := rbL_fit R.va n (j + 1) q hql (R.rm q hql)
          rw [hq] at x0
          obtain ⟨L, hL⟩ : ∃ L, (ts.getD j (0, [])).2 = L := ⟨_, rfl⟩
          rw [hL] at x1 hrn hln hvj hnx0 hnc
          obtain ⟨l, hl⟩ : ∃ l, rbL base ts (vX xs) n j = l := ⟨_, rfl⟩
          have hll : l.length = base.length := by rw [← hl, rbL_len]
          rw [hl] at hown hnx0 hfit
          obtain ⟨⟨lo, hi⟩, hlh⟩ : ∃ ab, l.getD q (0, 0) = ab := ⟨_, rfl⟩
          rw [hlh] at hnx0 hfit
          have hSp := rSpan_any (q : Int) na nc L wr hln hrn
          obtain ⟨⟨sa, sb⟩, hab⟩ : ∃ ab, sp L = ab := ⟨_, rfl⟩
          rw [hab] at hSp hnx0
          clear hL hl hab hnc hj
          by_cases hjn : j < n
          · have hjnc : (j : Int) < (n : Int) := by omega
            have hLf := fun wx (kx : Keep wr wx) => rLeaf_any na ax nc cx (q : Int) L xs (by omega) hxl wx (hrn.keep kx) (((hx.keep k1).keep kq).keep kx)
            rw [hvj] at hLf
            have hnx := hnx0 (vX xs L) (vX xs L) (by rw [if_pos hjn]) (by rw [if_pos hjn])
            generalize vX xs L = vv at hLf hnx
            rw [← hnx] at hfit2
            clear hjn hnx0
            generalize (lfK L xs : Nat) = vk at hLf
            generalize wyE L xs.length = ve at hLf
            go_wp2_with (first
              | (go_at_call 25; refine hSp.mono ?_; rintro e wB ⟨rfl, kB⟩
                 obtain ⟨wC, hwC, kC, tC, sC⟩ := boxed wB #[.int .i64 0, .int .i64 0] 42
                 obtain ⟨wD, hwD, tD, nD, zD, pD⟩ := put2 tC (.int .i64 sa) (.int .i64 sb)
                 obtain ⟨d0, d1, d2, d3⟩ := cells2 tC
                 have kBD := pD wB kC (Nat.le_refl _)
                 have krD : Keep wr wD := kB.trans kBD
                 have m0 := krD.cell x0
                 have m1 := krD.cell x1
                 obtain ⟨-, -, -, -, m4⟩ := cells5 ((kq.trans krD).at t1))
              | (go_at_call 26; refine (hLf wD krD).mono ?_; rintro e wE ⟨rfl, kE⟩
                 obtain ⟨wF, hwF, tF, nF, zF, pF⟩ := put2 (kE.at tD) (.int .i64 vv) (.int .i64 vv)
                 obtain ⟨e0, e1, e2, e3⟩ := cells2 (kE.at tD)
                 have krF : Keep wr wF := pF wr (krD.trans kE) kB.le
                 have p0 := krF.cell x0
                 have p1 := krF.cell x1
                 obtain ⟨f0, f1, -, -⟩ := cells2 tF
                 obtain ⟨-, -, -, -, p4⟩ := cells5 ((kq.trans krF).at t1)))
            have own4 : OwnV w1.heap.size wF (.slice (some ⟨g, 0, none⟩) l.length c) l := by rw [hll]; exact hown.keep krF
            have kwF : Keep w1 wF := kq.trans krF
            obtain ⟨i0, i1⟩ := own4.rd (by rw [hll]; exact hql) hlh
            have own5 := own4
            obtain ⟨hset, z0, z1⟩ := own5.set q (by rw [hll]; exact hql) (lo + vv) (hi + vv)
            rw [hll] at hset
            have hset2 : Hid (OwnV w1.heap.size ((wF.setCell ⟨g, q * 2, none⟩ (.int .i64 (lo + vv))).setCell ⟨g, q * 2 + 1, none⟩ (.int .i64 (hi + vv))).drew (.slice (some ⟨g, 0, none⟩) base.length c) (rbL base ts (vX xs) n (j + 1))) := by
              show OwnV _ _ _ _
              rw [← hnx]
              exact hset
            have kset : Hid (Keep w1 ((wF.setCell ⟨g, q * 2, none⟩ (.int .i64 (lo + vv))).setCell ⟨g, q * 2 + 1, none⟩ (.int .i64 (hi + vv))).drew) := Keep.drew ((kwF.setCell (p := ⟨g, q * 2, none⟩) hgB _).setCell (p := ⟨g, q * 2 + 1, none⟩) hgB _)
            have hqc : (q : Int) < (base.length : Int) := by omega
            have hfq : ((l.set q (lo + vv, hi + vv)).getD q (0, 0)) = (lo + vv, hi + vv) := by simp [List.getD, show q < l.length by omega]
            rw [hfq] at hfit2
            simp only at hfit2
            have wr1 : IntKind.i64.wrap (lo + vv) = lo + vv := by rw [IntWalk.i64_left]; exact IntWalk.wrap64_in _ (by omega)
            have wr2 : IntKind.i64.wrap (hi + vv) = hi + vv := by rw [IntWalk.i64_left]; exact IntWalk.wrap64_in _ (by omega)
            have HJ : Hid (j < ts.length) := hjl
            clear hjl own4 own5 hnx hfit hfit2 hset hown hfq
            go_still_tail 20, (by kernel_rfl)
            go_wp2_with fail
            go_roundw
            case rel => exact ⟨j + 1, by go_num, by have := HJ.out; omega, hset2.out, kset.out⟩
            case measure => have := HJ.out; simp [intOf]; omega
          · have hjnc : ¬ (j : Int) < (n : Int) := by omega
            have hnx := hnx0 sa sb (by rw [if_neg hjn]) (by rw [if_neg hjn])
            rw [← hnx] at hfit2
            clear hjn hnx0
            go_wp2_with (go_at_call 25; refine hSp.mono ?_; rintro e wB ⟨rfl, kB⟩
                         obtain ⟨wC, hwC, kC, tC, sC⟩ := boxed wB #[.int .i64 0, .int .i64 0] 42
                         obtain ⟨wD, hwD, tD, nD, zD, pD⟩ := put2 tC (.int .i64 sa) (.int .i64 sb)
                         obtain ⟨d0, d1, d2, d3⟩ := cells2 tC
                         have kBD := pD wB kC (Nat.le_refl _)
                         have krD : Keep wr wD := kB.trans kBD
                         have m0 := krD.cell x0
                         have m1 := krD.cell x1
                         obtain ⟨f0, f1, -, -⟩ := cells2 tD
                         obtain ⟨-, -, -, -, m4⟩ := cells5 ((kq.trans krD).at t1))
            have own4 : OwnV w1.heap.size wD (.slice (some ⟨g, 0, none⟩) l.length c) l := by rw [hll]; exact hown.keep krD
            have kwD : Keep w1 wD := kq.trans krD
            obtain ⟨i0, i1⟩ := own4.rd (by rw [hll]; exact hql) hlh
            have own5 := own4
            obtain ⟨hset, z0, z1⟩ := own5.set q (by rw [hll]; exact hql) (lo + sa) (hi + sb)
            rw [hll] at hset
            have hset2 : Hid (OwnV w1.heap.size ((wD.setCell ⟨g, q * 2, none⟩ (.int .i64 (lo + sa))).setCell ⟨g, q * 2 + 1, none⟩ (.int .i64 (hi + sb))).drew (.slice (some ⟨g, 0, none⟩) base.length c) (rbL base ts (vX xs) n (j + 1))) := by
              show OwnV _ _ _ _
              rw [← hnx]
              exact hset
            have kset : Hid (Keep w1 ((wD.setCell ⟨g, q * 2, none⟩ (.int .i64 (lo + sa))).setCell ⟨g, q * 2 + 1, none⟩ (.int .i64 (hi + sb))).drew) := Keep.drew ((kwD.setCell (p := ⟨g, q * 2, none⟩) hgB _).setCell (p := ⟨g, q * 2 + 1, none⟩) hgB _)
            have hqc : (q : Int) < (base.length : Int) := by omega
            have hfq : ((l.set q (lo + sa, hi + sb)).getD q (0, 0)) = (lo + sa, hi + sb) := by simp [List.getD, show q < l.length by omega]
            rw [hfq] at hfit2
            simp only at hfit2
            have wr1 : IntKind.i64.wrap (lo + sa) = lo + sa := by rw [IntWalk.i64_left]; exact IntWalk.wrap64_in _ (by omega)
            have wr2 : IntKind.i64.wrap (hi + sb) = hi + sb := by rw [IntWalk.i64_left]; exact IntWalk.wrap64_in _ (by omega)
            have HJ : Hid (j < ts.length) := hjl
            clear hjl own4 own5 hnx hfit hfit2 hset hown hfq
            go_still_tail 20, (by kernel_rfl)
            go_wp2_with fail
            go_roundw
            case rel => exact ⟨j + 1, by go_num, by have := HJ.out; omega, hset2.out, kset.out⟩
            case measure => have := HJ.out; simp [intOf]; omega
        · have hjc : ¬ (j : Int) < (ts.length : Int) := by omega
          obtain rfl : j = ts.length := by omega
          rw [HBA.out] at hown
          go_wp2_with fail
          go_ret
          exact ⟨_, rfl, hown.mono (by have := HWZ.out; omega), k1.trans kq⟩
end Go.Proofs.YtodegcobkngmlaaGreatDoor
