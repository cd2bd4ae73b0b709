import Derived.Test.YtmkanofeencgpaaDoorQ8
set_option linter.unusedVariables false
set_option linter.unusedSimpArgs false
namespace Go.Proofs.YtmkanofeencgpaaDoor
open Go.RowKit Go.Shelf
theorem lgF_le {L : List Nd} {B : Nat} (h : ∀ j, j < L.length → (L.getD j nd0).vl.natAbs ≤ B) : ∀ (f k m : Nat), k + f ≤ L.length → m ≤ B → lgF L f k m ≤ B
  | 0, k, m, _, hm => hm
  | f + 1, k, m, hk, hm => by
    rw [lgF]
    refine lgF_le h f (k + 1) _ (by omega) ?_
    split
    · exact h k (by omega)
    · exact hm
theorem lg_le {L : List Nd} {w : World} {a : Option Addr} (h : RdN w a L) : lg L ≤ 9223372036854775808 := by
  refine lgF_le (fun j hj => ?_) _ _ _ (by omega) (by omega)
  obtain ⟨b, o, ca, cap, -, hA⟩ := h j hj
  have := hA.ok.vl
  omega
set_option maxRecDepth 100000 in
set_option maxHeartbeats 3000000 in
theorem rRoom_any (nm : ByteArray) (fa : Option Addr) (Fn cf : Nat) (N : Int) (ba : Option Addr) (base : List Int) (cb : Nat) (ta : Option Addr) (ts : List (Int × List Nd)) (ct : Nat) (o : Nat) (w : World) (ho : o < base.length) (hE : EnR w ba base ta ts) :
    Calls Tryd.prog 15 #[.agg (ev nm fa Fn cf N ba base.length cb ta ts.length ct), .int .i64 (o : Int)] w fun e w' => ∃ v, e = .returned (.tuple #[v, .int .i64 0]) ∧ NatV w' v (rm base ts o) ∧ rm base ts o ≤ 9223372036854775808 * (4398046511104 + 1) ∧ Keep w w' := by
  obtain ⟨hbl, hb, hbb, htl, hts, ht⟩ := hE
  have HR : Hid (rm base ts o = rmF (o : Int) ts ts.length 0 (base.getD o 0).natAbs) := rfl
  generalize rm base ts o = G at HR ⊢
  have hbo := hbb (base.getD o 0) (by simp [List.getD, ho])
  obtain ⟨b0, o0, rfl, x0⟩ := hb o ho
  have hzb : (base.getD o 0).natAbs ≤ 9223372036854775808 := by omega
  obtain ⟨w1, hw1, k1, t1, s1⟩ := boxed w (ev nm fa Fn cf N (some ⟨b0, o0, none⟩) base.length cb ta ts.length ct) 26
  obtain ⟨-, -, -, c3, c4⟩ := cells5 t1
  have x1 := k1.cell x0
  generalize base.getD o 0 = z at hbo x1 HR hzb
  have hAm := ramount_any z hbo w1
  generalize z.natAbs = za at hAm HR hzb
  have hl1 : decide ((o : Int) < 0) = false := decide_eq_false (by omega)
  have hl2 : decide ((base.length : Int) ≤ (o : Int)) = false := decide_eq_false (by omega)
  have hoc : (o : Int) < (base.length : Int) := by omega
  clear hbo x0 hbb
  go_enter Tryd.func15, Tryd.ntmps15
  go_wp2_with (first | rw [hw1] | (go_at_call 39; refine hAm.mono ?_; rintro e wx ⟨rfl, hx⟩; rw [hx]; clear hx wx))
  clear c3 c4
  go_loopw [6, 7, 8] (fun vl vh i wr => ∃ k lo hi : Nat, vl = .int .u64 (lo : Int) ∧ vh = .int .u64 (hi : Int) ∧ i = .int .i64 (k : Int) ∧ k ≤ ts.length ∧ lo < 18446744073709551616 ∧ lo + 18446744073709551616 * hi ≤ 9223372036854775808 * (k + 1) ∧ Hid (G = rmF (o : Int) ts (ts.length - k) k (lo + 18446744073709551616 * hi)) ∧ Keep w1 wr) (fun vl vh i wr => ts.length - (intOf i).toNat)
  case atStart => exact ⟨0, za, 0, rfl, rfl, rfl, by omega, by omega, by omega, HR, Keep.refl _⟩
  case round =>
    obtain ⟨k, lo, hi, rfl, rfl, rfl, hk, hlo, hs, H, kr⟩ := hrel
    obtain ⟨-, -, -, c3, c4⟩ := cells5 (kr.at t1)
    by_cases hlt : k < ts.length
    · have hltc : (k : Int) < (ts.length : Int) := by omega
      have hl := hts k hlt
      obtain ⟨b, p, na, nc, rfl, y0, y1, hrn, hcp⟩ := (ht.keep (k1.trans kr)) k hlt
      have H1 : Hid (rmF (o : Int) ts (ts.length - k) k (lo + 18446744073709551616 * hi) = rmF (o : Int) ts (ts.length - (k + 1)) (k + 1) (if (ts.getD k (0, [])).1 = (o : Int) then (lo + 18446744073709551616 * hi) + lg (ts.getD k (0, [])).2 else (lo + 18446744073709551616 * hi))) := by
        rw [show ts.length - k = (ts.length - (k + 1)) + 1 by omega, rmF]; rfl
      have HK : Hid (k < ts.length) := hlt
      clear hlt hcp
      generalize ts.getD k (0, []) = tk at y0 y1 hrn H1 hl
      obtain ⟨out, L⟩ := tk
      simp only at y0 y1 hrn H1 hl
      by_cases he : out = (o : Int)
      · have hec : (out != (o : Int)) = false := by rw [bne, beq_iff_eq.2 he]; rfl
        have H2 : Hid (G = rmF (o : Int) ts (ts.length - (k + 1)) (k + 1) (lo + 18446744073709551616 * hi + lg L)) := by unfold Hid; rw [H.out, H1.out, if_pos he]
        have hLg := rLargest_any out na nc L wr hl hrn
        have hgb : lg L ≤ 9223372036854775808 := lg_le hrn
        clear he H1 H
        generalize lg L = g at hLg H2 hgb
        by_cases hov : lo + g < 18446744073709551616
        · have hwr : IntKind.u64.wrap ((lo : Int) + (g : Int)) = ((lo + g : Nat) : Int) := by rw [IntKind.wrap_u64]; omega
          obtain ⟨l2, hl2'⟩ : ∃ l2, l2 = lo + g := ⟨_, rfl⟩
          rw [← hl2'] at hwr
          have hcm : ¬ (l2 : Int) < (g : Int) := by omega
          have HL2 : Hid (l2 = lo + g ∧ lo + g < 18446744073709551616 ∧ g ≤ 9223372036854775808 ∧ lo + 18446744073709551616 * hi ≤ 9223372036854775808 * (k + 1)) := ⟨hl2', hov, hgb, hs⟩
          clear hl2' hov hs hgb
          go_wp2_with (first | (go_at_call 18; refine hLg.mono ?_; rintro e w4 ⟨rfl, hg, k4⟩))
          go_roundw
          case rel => exact ⟨k + 1, l2, hi, rfl, rfl, by go_num, by have := HK.out; omega, by have := HL2.out; omega, by have := HL2.out; omega, by unfold Hid; rw [H2.out, HL2.out.1]; congr 1; omega, kr.trans k4⟩
          case measure => have := HK.out; simp [intOf]; omega
        · obtain ⟨l2, hl2'⟩ : ∃ l2, l2 + 18446744073709551616 = lo + g := ⟨lo + g - 18446744073709551616, by omega⟩
          have hwr : IntKind.u64.wrap ((lo : Int) + (g : Int)) = (l2 : Int) := by rw [IntKind.wrap_u64]; omega
          have hwr2 : IntKind.u64.wrap ((hi : Int) + 1) = ((hi + 1 : Nat) : Int) := by rw [IntKind.wrap_u64]; omega
          have hcm : (l2 : Int) < (g : Int) := by omega
          have HL2 : Hid (l2 + 18446744073709551616 = lo + g ∧ g ≤ 9223372036854775808 ∧ lo < 18446744073709551616 ∧ lo + 18446744073709551616 * hi ≤ 9223372036854775808 * (k + 1)) := ⟨hl2', hgb, hlo, hs⟩
          clear hl2' hov hs hgb
          go_wp2_with (first | (go_at_call 18; refine hLg.mono ?_; rintro e w4 ⟨rfl, hg, k4⟩))
          go_roundw
          case rel => exact ⟨k + 1, l2, hi + 1, rfl, by first | rfl | go_num, by go_num, by have := HK.out; omega, by have := HL2.out; omega, by have := HL2.out; omega, by unfold Hid; rw [H2.out]; congr 1; have := HL2.out.1; omega, kr.trans k4⟩
          case measure => have := HK.out; simp [intOf]; omega
      · have hec : (out != (o : Int)) = true := by rw [bne, beq_eq_false_iff_ne.2 he]; rfl
        have H2 : Hid (G = rmF (o : Int) ts (ts.length - (k + 1)) (k + 1) (lo + 18446744073709551616 * hi)) := by unfold Hid; rw [H.out, H1.out, if_neg he]
        clear he H1 H
        go_wp2_with fail
        go_roundw
        case rel => exact ⟨k + 1, lo, hi, rfl, rfl, by go_num, by have := HK.out; omega, hlo, by omega, H2, kr⟩
        case measure => have := HK.out; simp [intOf]; omega
    · have hltc : ¬ (k : Int) < (ts.length : Int) := by omega
      have H1 : Hid (G = lo + 18446744073709551616 * hi) := by unfold Hid; rw [H.out, show ts.length - k = 0 by omega]; rfl
      have hhi : hi < 18446744073709551616 := by omega
      have a1 := Li.and64 lo hlo
      have a2 := Li.and64 hi hhi
      clear hlt
      go_wp2_with fail
      have hrow : Li.Row (wr.alloc (Obj.cells #[Value.int IntKind.u32 (↑lo % 4294967296), Value.int IntKind.u32 (↑lo / 4294967296), Value.int IntKind.u32 (↑hi % 4294967296), Value.int IntKind.u32 (↑hi / 4294967296)] 59)) wr.heap.size [lo % 4294967296, lo / 4294967296, hi % 4294967296, hi / 4294967296] := by
        unfold Li.Row; rw [heap_alloc_new]; simp [Li.U]
      have hkk : Keep wr (wr.alloc (Obj.cells #[Value.int IntKind.u32 (↑lo % 4294967296), Value.int IntKind.u32 (↑lo / 4294967296), Value.int IntKind.u32 (↑hi % 4294967296), Value.int IntKind.u32 (↑hi / 4294967296)] 59)) := (Keep.refl wr).alloc _
      generalize wr.alloc _ = w5 at hrow hkk ⊢
      refine (Li.rNorm_any (some ⟨wr.heap.size, 0, none⟩) 4 [lo % 4294967296, lo / 4294967296, hi % 4294967296, hi / 4294967296] w5 (by simp) (by simp) (hrow.rd 0 4 (by simp))).mono ?_
      rintro e w6 ⟨v, rfl, hown, hk6⟩
      obtain ⟨a, c, e, hc, hr⟩ := hown.shape
      replace e : Hid _ := e
      go_wp2
      go_ret2
      refine ⟨v, rfl, ⟨a, c, _, e.out, hc, hr, Lb.Lim_take (by intro x hx; simp at hx; omega) _, Lb.Nrm_take _, ?_⟩, by rw [H1.out]; omega, (k1.trans kr).trans (hkk.trans hk6)⟩
      rw [H1.out, Lb.val_take_nl]
      simp [Lb.val]
      omega
end Go.Proofs.YtmkanofeencgpaaDoor
