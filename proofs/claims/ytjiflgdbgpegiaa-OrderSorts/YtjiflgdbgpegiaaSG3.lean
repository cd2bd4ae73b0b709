import Derived.Test.YtjiflgdbgpegiaaSG1
import Derived.Test.YtjiflgdbgpegiaaSG2
set_option linter.unusedVariables false
set_option linter.unusedSimpArgs false
namespace Go.Proofs.Ytjiflgdbgpegiaa
open Go.RowKit Go.Shelf
theorem cmpV_le {x y : Nat} (h : key x ≤ key y) : ∃ cv, cmpV (key x) (key y) = cv ∧ ¬ 0 < cv := by
  refine ⟨_, rfl, ?_⟩
  unfold cmpV
  split
  · decide
  · rw [if_neg (by omega)]; decide
theorem cmpV_lt {x y : Nat} (h : key x < key y) : cmpV (key x) (key y) = -1 := by unfold cmpV; rw [if_pos h]
theorem cmpV_ge {x y : Nat} (h : ¬ key x < key y) : ∃ cv, cmpV (key x) (key y) = cv ∧ ¬ cv < 0 := by
  refine ⟨_, rfl, ?_⟩
  unfold cmpV
  rw [if_neg h]
  split <;> decide
set_option maxRecDepth 100000 in
set_option maxHeartbeats 16000000 in
/-- OrderSorts. -/
theorem law_sorts (p : Option Addr) (c n y : Nat) (l : List Nat) (w : World) (hF : F64 l) (hn : l.length = n) (hl : n ≤ 17592186044414) (hy : y < 18446744073709551616) (hL : RdU w p l) :
    Calls Try.prog 10 #[.slice p n c, .int .u64 (y : Int)] w fun e w' => e = .returned (.bool true) ∧ Keep w w' := by
  have h38 := list_any p c n l w hn hl hL
  have HN : Hid (l.length = n) := hn
  have HF : Hid (F64 l) := hF
  have hf := fun x wx => f64from x wx
  have hbeg := begins_any w
  clear hL hn hF
  go_enter Try.func10, Try.ntmps10
  go_wp2_with (first
    | (go_at_call 46; refine hbeg.mono ?_; rintro e w0 ⟨rfl, hw0⟩; rw [hw0]; clear hw0 w0 hbeg)
    | (go_at_call 38; refine h38.mono ?_; rintro e w1 ⟨v1, rfl, o1, k1⟩; obtain ⟨q1, c1, rfl, R1, alt⟩ := own_rdvo HN.out o1; have HR1 : Hid (RdV w1 q1 l) := R1; have K1 : Hid (Keep w w1) := k1; clear R1 o1 k1)
    | (go_at_call 40; refine (Sorted_own q1 c1 n l w1 HF.out HN.out (by omega) alt).mono ?_; rintro e w2 ⟨M, m1, m2, m3, rfl, m4, k2, z2⟩; have HM : Hid (M.length = n ∧ srt kI M ∧ eqv kI M l ∧ M.Perm l) := ⟨m1, m2, m3, m3.perm⟩; have hA2 : Hid (Arr w2 w1.heap.size M) := m4; have K2 : Hid (Keep w1 w2) := k2; clear m1 m2 m3 m4 k2 z2 alt)
    | (go_at_call 50; refine (counts_any q1 (some ⟨w1.heap.size, 0, none⟩) c1 n n l M w2 HN.out HM.out.1 (by omega) HF.out (fun x hx => HF.out x (HM.out.2.2.2.mem_iff.1 hx)) HM.out.2.2.2 (HR1.out.keep K2.out) (Arr.rdv hA2.out)).mono ?_; rintro e w3 ⟨rfl, k3⟩; have K3 : Hid (Keep w2 w3) := k3; clear k3))
  obtain ⟨G, hG⟩ : ∃ G, w1.heap.size = G := ⟨_, rfl⟩
  rw [hG] at hA2 ⊢
  have hc3 : Hid (∀ i, i < n → w3.cell? ⟨G, i, none⟩ = some (.float .f64 (M.getD i 0)) ∧ M.getD i 0 < 18446744073709551616) := by
    intro i hi
    refine ⟨K3.out.cell (hA2.out.cell (by rw [HM.out.1]; exact hi)), HF.out _ (HM.out.2.2.2.mem_iff.1 ?_)⟩
    simp [List.getD, show i < M.length by rw [HM.out.1]; exact hi]
  have hrise : Hid (∀ i, i + 1 < n → key (M.getD i 0) ≤ key (M.getD (i + 1) 0)) := by
    intro i hi
    have := srt_get HM.out.2.1 0 (i := i) (j := i + 1) (by omega) (by rw [HM.out.1]; exact hi)
    unfold kI at this
    omega
  clear hG h38
  go_loopw [7] (fun iv wr => ∃ i : Nat, iv = .int .i64 (i : Int) ∧ 1 ≤ i ∧ i ≤ n + 1 ∧ ∃ z, wr = w3.drewN z) (fun iv _ => n + 1 - (intOf iv).toNat)
  case atStart => exact ⟨1, rfl, by omega, by omega, 0, rfl⟩
  case round =>
    obtain ⟨i, rfl, hi1, hi2, z, rfl⟩ := hrel
    by_cases hin : i < n
    · have hic : (i : Int) < (n : Int) := by omega
      obtain ⟨j, hj⟩ : ∃ j, i = j + 1 := ⟨i - 1, by omega⟩
      have hle := hrise.out j (by omega)
      obtain ⟨cx, hx64⟩ := hc3.out i hin
      obtain ⟨cy, hy64⟩ := hc3.out j (by omega)
      rw [← hj] at hle
      obtain ⟨x, hx0⟩ : ∃ x, M.getD i 0 = x := ⟨_, rfl⟩
      obtain ⟨x', hx1⟩ : ∃ x', M.getD j 0 = x' := ⟨_, rfl⟩
      rw [hx0] at cx hx64 hle
      rw [hx1] at cy hy64 hle
      obtain ⟨cv, hcv, hcn⟩ := cmpV_le hle
      have hP : ∀ wx, Calls Try.prog 18 #[.float .f64 x', .float .f64 x] wx fun e w' => e = .returned (.int .i64 cv) ∧ w' = wx := fun wx => by
        have h := Compare_any x' x wx hy64 hx64
        rw [hcv] at h
        exact h
      have hsub : (i : Int) - 1 = (j : Int) := by omega
      have hjm : IntKind.i64.wrap ((i : Int) - 1) = (j : Int) := by rw [IntWalk.i64_left, hsub]; exact IntWalk.wrap64_in _ (by omega)
      have cj1 : j < n := by omega
      have cj2 : (j : Int) < (n : Int) := by omega
      clear hj hle hx0 hx1 hcv hsub
      go_wp2_with fail
      refine wp_region_quiet_lit (by kernel_rfl) (by kernel_rfl) ?_
      iterate 11
        with_reducible refine wpQuiet_step ?_
        intro K hK
        go_simp
        first
          | (with_reducible refine hK _ ?_; clear hK K)
          | (with_reducible refine (if_neg ?_).mpr (hK _ ?_)
             · decide
             clear hK K)
          | (with_reducible refine ⟨.int .i64 cv, fun aw => (hP _).mono ?_, hK _ ?_⟩
             · rintro e w' ⟨rfl, rfl⟩; exact ⟨rfl, _, rfl⟩
             clear hK K)
          | (apply Exists.intro
             refine ⟨fun _ => ?_, hK _ ?_⟩
             · with_reducible rfl
             clear hK K)
      refine wpQuiet_nil ?_
      rintro _ ⟨nq, rfl⟩
      go_wp2_with fail
      refine ⟨⟨i + 1, by go_num, by omega, by omega, z + nq, by simp [World.drewN, Nat.add_assoc]⟩, ?_⟩
      simp [intOf]; omega
    · have hic : ¬ (i : Int) < (n : Int) := by omega
      have hR4 : RdV (w3.drewN z) q1 l := ((HR1.out.keep K2.out).keep K3.out).keep (Keep.drewN _ _)
      have h42 := Distinct_any q1 c1 n l (w3.drewN z) HF.out HN.out hl hR4
      have K3z : Hid (Keep w3 (w3.drewN z)) := Keep.drewN _ _
      clear hR4 hi1 hi2 hin
      generalize w3.drewN z = w4 at h42 K3z ⊢
      go_wp2_with (go_at_call 42; refine h42.mono ?_; rintro e w5 ⟨gd, cd, D, rfl, d5, o5, k5⟩; obtain ⟨d, hd⟩ : ∃ d, D.length = d := ⟨_, rfl⟩; have HD : Hid (D.length = d ∧ Dst M D) := ⟨hd, ⟨d5.rise, fun x => by rw [d5.mem]; constructor <;> (rintro ⟨u, hu, r⟩; exact ⟨u, by first | exact HM.out.2.2.2.mem_iff.2 hu | exact HM.out.2.2.2.mem_iff.1 hu, r⟩)⟩⟩; rw [hd] at o5 ⊢; have hDc : Hid (∀ i, i < d → w5.cell? ⟨gd, i, none⟩ = some (.float .f64 (D.getD i 0))) := (fun i hi => (own_arr (r := []) (by rw [List.append_nil]; exact o5)).cell (by rw [hd]; exact hi)); have K5 : Hid (Keep w3 w5) := K3z.out.trans k5; clear d5 o5 k5 hd h42)
      have hc5 : Hid (∀ i, i < n → w5.cell? ⟨G, i, none⟩ = some (.float .f64 (M.getD i 0)) ∧ M.getD i 0 < 18446744073709551616) := fun i hi => ⟨K5.out.cell (hc3.out i hi).1, (hc3.out i hi).2⟩
      have hdn : d ≤ n := by have h := HD.out.2.len; rw [HD.out.1, HM.out.1] at h; exact h
      clear hc3 hic
      go_loopw [9, 10] (fun kv iv wr => ∃ i k : Nat, iv = .int .i64 (i : Int) ∧ kv = .int .i64 (k : Int) ∧ i ≤ n ∧ k ≤ d ∧ Hid (Dst (M.take i) (D.take k)) ∧ ∃ z, wr = w5.drewN z) (fun _ iv _ => n - (intOf iv).toNat)
      case atStart => exact ⟨0, 0, rfl, rfl, by omega, by omega, Dst.nil, 0, rfl⟩
      case round =>
        obtain ⟨i, k, rfl, rfl, hi, hk, hDk, z, rfl⟩ := hrel
        by_cases hin : i < n
        · have hic : (i : Int) < (n : Int) := by omega
          obtain ⟨cx, hx64⟩ := hc5.out i hin
          have hil : i < M.length := by rw [HM.out.1]; exact hin
          obtain ⟨x, hx0⟩ : ∃ x, M.getD i 0 = x := ⟨_, rfl⟩
          have htk : M.take (i + 1) = M.take i ++ [x] := by rw [List.take_add_one, ← hx0]; simp [List.getD, hil]
          have HT : Hid (M.take (i + 1) = M.take i ++ [x]) := htk
          have HX : Hid (M.getD i 0 = x) := hx0
          rw [hx0] at cx hx64
          have HPF : Hid (∀ E, Dst (M.take (i + 1)) E → (E.length = k + 1 → k < d ∧ D.getD k 0 = E.getD k 0 ∧ D.take (k + 1) = E)) := by
            intro E hE hEl
            have h1 := Dst.prefix (M.drop (i + 1)) (by rw [List.take_append_drop]; exact HM.out.2.1) hE (by rw [List.take_append_drop]; exact HD.out.2)
            obtain ⟨R, hR⟩ := h1
            have h2 := HD.out.1
            rw [hR, List.length_append] at h2
            refine ⟨by omega, ?_, ?_⟩
            · rw [hR, getD_left 0 _ _ (by omega)]
            · rw [hR, ← hEl, List.take_left]
          have HKL : Hid ((D.take k).length = k) := by show _ = _; rw [List.length_take, HD.out.1]; omega
          have HLE : Hid (∀ u ∈ M.take i, key u ≤ key x) := by
            intro u hu
            have hs := HM.out.2.1
            rw [← List.take_append_drop (i + 1) M, htk] at hs
            have := (List.pairwise_append.1 (List.pairwise_append.1 hs).1).2.2 u hu x (by simp)
            unfold kI at this
            omega
          replace HPF : Hid (∀ E, Dst (M.take (i + 1)) E → E = D.take k ++ [aK (key x)] → k < d ∧ D.getD k 0 = aK (key x) ∧ D.take (k + 1) = E) := by
            intro E hE e
            have hl2 : E.length = k + 1 := by rw [e, List.length_append, HKL.out]; rfl
            obtain ⟨a1, a2, a3⟩ := HPF.out E hE hl2
            refine ⟨a1, ?_, a3⟩
            rw [a2, e, getD_right 0 _ _ (by rw [HKL.out]; omega), HKL.out, Nat.sub_self]
            rfl
          clear hx0 htk hil
          by_cases hxn : isNaN x
          · have oxx : FloatKind.f64.format.order x x = none := ord_nan (.inl hxn)
            have HD2 : Hid (Dst (M.take (i + 1)) (D.take k)) := by rw [HT.out]; exact hDk.out.nan hxn
            clear hxn
            go_wp2_with fail
            refine wp_region_quiet_lit (by kernel_rfl) (by kernel_rfl) ?_
            iterate 25
              with_reducible refine wpQuiet_step ?_
              intro K hK
              go_simp
              first
                | (with_reducible refine hK _ ?_; clear hK K)
                | (with_reducible refine (if_neg ?_).mpr (hK _ ?_)
                   · decide
                   clear hK K)
                | (apply Exists.intro
                   refine ⟨fun _ => ?_, hK _ ?_⟩
                   · with_reducible rfl
                   clear hK K)
            refine wpQuiet_nil ?_
            rintro _ ⟨nq, rfl⟩
            go_wp2_with fail
            refine ⟨⟨i + 1, k, by go_num, rfl, by omega, hk, HD2, z + nq, by simp [World.drewN, Nat.add_assoc]⟩, ?_⟩
            simp [intOf]; omega
          · have oxx : FloatKind.f64.format.order x x = some .eq := ord_eq hx64 hx64 hxn hxn rfl
            by_cases hi0 : i = 0
            · subst hi0
              have HD2 : Hid (Dst (M.take 1) (D.take k ++ [aK (key x)])) := by
                have h1 := HT.out
                rw [Nat.zero_add] at h1
                rw [h1]
                refine hDk.out.more hxn HLE.out fun u hu => ?_
                exfalso
                obtain ⟨v, h2, -⟩ := (hDk.out.mem u).1 (List.mem_of_getLast? hu)
                simp at h2
              rw [Nat.zero_add] at HPF HT
              have hDx := HPF.out (D.take k ++ [aK (key x)]) HD2.out rfl
              have hkd : k < d := hDx.1
              have hkdc : (k : Int) < (d : Int) := by omega
              have hkne : ¬ ((k : Int) = (d : Int)) := by omega
              have hkb : ((k : Int) == (d : Int)) = false := by simpa using hkne
              have hez : D.getD k 0 = aK (key x) := hDx.2.1
              replace HD2 : Hid (Dst (M.take (1)) (D.take (k + 1))) := by have := HD2.out; rw [← hDx.2.2] at this; exact this
              have cz := hDc.out k hkd
              rw [hez] at cz
              obtain ⟨zb, hzb⟩ : ∃ zb, aK (key x) = zb := ⟨_, rfl⟩
              have hz64 : zb < 18446744073709551616 := by rw [← hzb]; exact aK_lt _
              have hzk : key zb = key x := by rw [← hzb]; exact aK_key (key_le x)
              have hzn : ¬ isNaN zb := by rw [nan_key, hzk, ← nan_key]; exact hxn
              rw [hzb] at cz
              have ozx : FloatKind.f64.format.order zb x = some .eq := ord_eq hz64 hx64 hzn hxn hzk
              have n0 : ¬ isNaN 0 := by decide
              clear hDx hez
              by_cases hz0 : key x = 9218868437227405312
              · obtain rfl : zb = 0 := by rw [← hzb, hz0]; decide +kernel
                have oz0 : FloatKind.f64.format.order 0 0 = some .eq := by decide +kernel
                have hSb : ∀ wx, Calls Try.prog 47 #[.float .f64 0] wx fun e w' => e = .returned (.bool false) ∧ w' = wx := fun wx => Signbit_any 0 wx (by omega)
                clear hzk hzb hz0 hzn hz64
                go_wp2_with fail
                refine wp_region_quiet_lit (by kernel_rfl) (by kernel_rfl) ?_
                iterate 25
                  with_reducible refine wpQuiet_step ?_
                  intro K hK
                  go_simp
                  first
                    | (with_reducible refine hK _ ?_; clear hK K)
                    | (with_reducible refine (if_neg ?_).mpr (hK _ ?_)
                       · decide
                       clear hK K)
                    | (apply Exists.intro
                       refine ⟨fun _ => ?_, hK _ ?_⟩
                       · with_reducible rfl
                       clear hK K)
                refine wpQuiet_nil ?_
                rintro _ ⟨nq, rfl⟩
                go_wp2_with fail
                refine wp_region_quiet_lit (by kernel_rfl) (by kernel_rfl) ?_
                iterate 29
                  with_reducible refine wpQuiet_step ?_
                  intro K hK
                  go_simp
                  first
                    | (with_reducible refine hK _ ?_; clear hK K)
                    | (with_reducible refine (if_neg ?_).mpr (hK _ ?_)
                       · decide
                       clear hK K)
                    | (with_reducible refine ⟨.bool false, fun aw => (hSb _).mono ?_, hK _ ?_⟩
                       · rintro e w' ⟨rfl, rfl⟩; exact ⟨rfl, _, rfl⟩
                       clear hK K)
                    | (apply Exists.intro
                       refine ⟨fun _ => ?_, hK _ ?_⟩
                       · with_reducible rfl
                       clear hK K)
                refine wpQuiet_nil ?_
                rintro _ ⟨nr, rfl⟩
                go_wp2_with fail
                refine ⟨⟨1, k + 1, by go_num, by go_num, by omega, by omega, HD2, z + nq + nr, by simp [World.drewN, Nat.add_assoc]⟩, ?_⟩
                simp [intOf]; omega
              · have hk0 : key 0 = 9218868437227405312 := by decide +kernel
                obtain ⟨ro, hro, hrn⟩ : ∃ ro, FloatKind.f64.format.order zb 0 = some ro ∧ (some ro == some Ordering.eq) = false := by
                  rcases Nat.lt_trichotomy (key zb) (key 0) with q | q | q
                  · exact ⟨_, ord_lt hz64 (by omega) hzn n0 q, by decide⟩
                  · exfalso; omega
                  · exact ⟨_, ord_gt hz64 (by omega) hzn n0 q, by decide⟩
                clear hzk hzb hz0 hzn hz64 hk0
                go_wp2_with fail
                refine wp_region_quiet_lit (by kernel_rfl) (by kernel_rfl) ?_
                iterate 25
                  with_reducible refine wpQuiet_step ?_
                  intro K hK
                  go_simp
                  first
                    | (with_reducible refine hK _ ?_; clear hK K)
                    | (with_reducible refine (if_neg ?_).mpr (hK _ ?_)
                       · decide
                       clear hK K)
                    | (apply Exists.intro
                       refine ⟨fun _ => ?_, hK _ ?_⟩
                       · with_reducible rfl
                       clear hK K)
                refine wpQuiet_nil ?_
                rintro _ ⟨nq, rfl⟩
                go_wp2_with fail
                refine wp_region_quiet_lit (by kernel_rfl) (by kernel_rfl) ?_
                iterate 29
                  with_reducible refine wpQuiet_step ?_
                  intro K hK
                  go_simp
                  first
                    | (with_reducible refine hK _ ?_; clear hK K)
                    | (with_reducible refine (if_neg ?_).mpr (hK _ ?_)
                       · decide
                       clear hK K)
                    | (apply Exists.intro
                       refine ⟨fun _ => ?_, hK _ ?_⟩
                       · with_reducible rfl
                       clear hK K)
                refine wpQuiet_nil ?_
                rintro _ ⟨nr, rfl⟩
                go_wp2_with fail
                refine ⟨⟨1, k + 1, by go_num, by go_num, by omega, by omega, HD2, z + nq + nr, by simp [World.drewN, Nat.add_assoc]⟩, ?_⟩
                simp [intOf]; omega
            · obtain ⟨j, hj⟩ : ∃ j, i = j + 1 := ⟨i - 1, by omega⟩
              have hle := hrise.out j (by omega)
              obtain ⟨cy, hy64⟩ := hc5.out j (by omega)
              rw [← hj, HX.out] at hle
              obtain ⟨x', hx1⟩ : ∃ x', M.getD j 0 = x' := ⟨_, rfl⟩
              rw [hx1] at cy hy64 hle
              have hx'n : ¬ isNaN x' := by
                rw [nan_key] at hxn ⊢
                have := key_le x
                omega
              have hmem : x' ∈ M.take i := by
                rw [← hx1, hj]
                have h1 : j < (M.take (j + 1)).length := by rw [List.length_take, HM.out.1]; omega
                have h2 : M.getD j 0 = (M.take (j + 1))[j] := by simp [List.getD, show j < M.length by rw [HM.out.1]; omega]
                rw [h2]
                exact List.getElem_mem _
              have hall : ∀ u ∈ M.take i, key u ≤ key x' := by
                intro u hu
                obtain ⟨r, hr, e⟩ := List.getElem_of_mem hu
                rw [List.length_take] at hr
                have h1 := srt_get HM.out.2.1 0 (i := r) (j := j) (by omega) (by rw [HM.out.1]; omega)
                have h2 : M.getD r 0 = u := by rw [← e]; simp [List.getD, show r < M.length by omega]
                rw [h2, hx1] at h1
                unfold kI at h1
                omega
              have hsub : (i : Int) - 1 = (j : Int) := by omega
              have hjm : IntKind.i64.wrap ((i : Int) - 1) = (j : Int) := by rw [IntWalk.i64_left, hsub]; exact IntWalk.wrap64_in _ (by omega)
              have c1 : decide ((i : Int) > 0) = true := decide_eq_true (by omega)
              have ci0 : (0 : Int) < (i : Int) := by omega
              have ci1 : 0 < i := by omega
              have cj1 : j < n := by omega
              have cj2 : (j : Int) < (n : Int) := by omega
              by_cases hkk : key x' = key x
              · have oxy : FloatKind.f64.format.order x x' = some .eq := ord_eq hx64 hy64 hxn hx'n hkk.symm
                have HD2 : Hid (Dst (M.take (i + 1)) (D.take k)) := by
                  rw [HT.out]
                  refine hDk.out.same ((hDk.out.mem (aK (key x'))).2 ⟨x', hmem, hx'n, rfl⟩) ?_
                  rw [aK_key (key_le x')]; exact hkk
                clear hkk hmem hall hx'n hsub hle hx1 hj hi0 hxn
                go_wp2_with fail
                refine wp_region_quiet_lit (by kernel_rfl) (by kernel_rfl) ?_
                iterate 25
                  with_reducible refine wpQuiet_step ?_
                  intro K hK
                  go_simp
                  first
                    | (with_reducible refine hK _ ?_; clear hK K)
                    | (with_reducible refine (if_neg ?_).mpr (hK _ ?_)
                       · decide
                       clear hK K)
                    | (apply Exists.intro
                       refine ⟨fun _ => ?_, hK _ ?_⟩
                       · with_reducible rfl
                       clear hK K)
                refine wpQuiet_nil ?_
                rintro _ ⟨nq, rfl⟩
                go_wp2_with fail
                refine ⟨⟨i + 1, k, by go_num, rfl, by omega, hk, HD2, z + nq, by simp [World.drewN, Nat.add_assoc]⟩, ?_⟩
                simp [intOf]; omega
              · have oxy : FloatKind.f64.format.order x x' = some .gt := ord_gt hx64 hy64 hxn hx'n (by omega)
                have HD2 : Hid (Dst (M.take (i + 1)) (D.take k ++ [aK (key x)])) := by
                  rw [HT.out]
                  refine hDk.out.more hxn HLE.out fun u hu => ?_
                  obtain ⟨v, h1, h2, h3, h4⟩ := hDk.out.key_at (List.mem_of_getLast? hu)
                  have := hall v h1
                  omega
                clear hkk hmem hall hx'n hsub hle hx1 hj hi0
                have hDx := HPF.out (D.take k ++ [aK (key x)]) HD2.out rfl
                have hkd : k < d := hDx.1
                have hkdc : (k : Int) < (d : Int) := by omega
                have hkne : ¬ ((k : Int) = (d : Int)) := by omega
                have hkb : ((k : Int) == (d : Int)) = false := by simpa using hkne
                have hez : D.getD k 0 = aK (key x) := hDx.2.1
                replace HD2 : Hid (Dst (M.take (i + 1)) (D.take (k + 1))) := by have := HD2.out; rw [← hDx.2.2] at this; exact this
                have cz := hDc.out k hkd
                rw [hez] at cz
                obtain ⟨zb, hzb⟩ : ∃ zb, aK (key x) = zb := ⟨_, rfl⟩
                have hz64 : zb < 18446744073709551616 := by rw [← hzb]; exact aK_lt _
                have hzk : key zb = key x := by rw [← hzb]; exact aK_key (key_le x)
                have hzn : ¬ isNaN zb := by rw [nan_key, hzk, ← nan_key]; exact hxn
                rw [hzb] at cz
                have ozx : FloatKind.f64.format.order zb x = some .eq := ord_eq hz64 hx64 hzn hxn hzk
                have n0 : ¬ isNaN 0 := by decide
                clear hDx hez
                by_cases hz0 : key x = 9218868437227405312
                · obtain rfl : zb = 0 := by rw [← hzb, hz0]; decide +kernel
                  have oz0 : FloatKind.f64.format.order 0 0 = some .eq := by decide +kernel
                  have hSb : ∀ wx, Calls Try.prog 47 #[.float .f64 0] wx fun e w' => e = .returned (.bool false) ∧ w' = wx := fun wx => Signbit_any 0 wx (by omega)
                  clear hzk hzb hz0 hzn hz64
                  go_wp2_with fail
                  refine wp_region_quiet_lit (by kernel_rfl) (by kernel_rfl) ?_
                  iterate 25
                    with_reducible refine wpQuiet_step ?_
                    intro K hK
                    go_simp
                    first
                      | (with_reducible refine hK _ ?_; clear hK K)
                      | (with_reducible refine (if_neg ?_).mpr (hK _ ?_)
                         · decide
                         clear hK K)
                      | (apply Exists.intro
                         refine ⟨fun _ => ?_, hK _ ?_⟩
                         · with_reducible rfl
                         clear hK K)
                  refine wpQuiet_nil ?_
                  rintro _ ⟨nq, rfl⟩
                  go_wp2_with fail
                  refine wp_region_quiet_lit (by kernel_rfl) (by kernel_rfl) ?_
                  iterate 29
                    with_reducible refine wpQuiet_step ?_
                    intro K hK
                    go_simp
                    first
                      | (with_reducible refine hK _ ?_; clear hK K)
                      | (with_reducible refine (if_neg ?_).mpr (hK _ ?_)
                         · decide
                         clear hK K)
                      | (with_reducible refine ⟨.bool false, fun aw => (hSb _).mono ?_, hK _ ?_⟩
                         · rintro e w' ⟨rfl, rfl⟩; exact ⟨rfl, _, rfl⟩
                         clear hK K)
                      | (apply Exists.intro
                         refine ⟨fun _ => ?_, hK _ ?_⟩
                         · with_reducible rfl
                         clear hK K)
                  refine wpQuiet_nil ?_
                  rintro _ ⟨nr, rfl⟩
                  go_wp2_with fail
                  refine ⟨⟨i + 1, k + 1, by go_num, by go_num, by omega, by omega, HD2, z + nq + nr, by simp [World.drewN, Nat.add_assoc]⟩, ?_⟩
                  simp [intOf]; omega
                · have hk0 : key 0 = 9218868437227405312 := by decide +kernel
                  obtain ⟨ro, hro, hrn⟩ : ∃ ro, FloatKind.f64.format.order zb 0 = some ro ∧ (some ro == some Ordering.eq) = false := by
                    rcases Nat.lt_trichotomy (key zb) (key 0) with q | q | q
                    · exact ⟨_, ord_lt hz64 (by omega) hzn n0 q, by decide⟩
                    · exfalso; omega
                    · exact ⟨_, ord_gt hz64 (by omega) hzn n0 q, by decide⟩
                  clear hzk hzb hz0 hzn hz64 hk0
                  go_wp2_with fail
                  refine wp_region_quiet_lit (by kernel_rfl) (by kernel_rfl) ?_
                  iterate 25
                    with_reducible refine wpQuiet_step ?_
                    intro K hK
                    go_simp
                    first
                      | (with_reducible refine hK _ ?_; clear hK K)
                      | (with_reducible refine (if_neg ?_).mpr (hK _ ?_)
                         · decide
                         clear hK K)
                      | (apply Exists.intro
                         refine ⟨fun _ => ?_, hK _ ?_⟩
                         · with_reducible rfl
                         clear hK K)
                  refine wpQuiet_nil ?_
                  rintro _ ⟨nq, rfl⟩
                  go_wp2_with fail
                  refine wp_region_quiet_lit (by kernel_rfl) (by kernel_rfl) ?_
                  iterate 29
                    with_reducible refine wpQuiet_step ?_
                    intro K hK
                    go_simp
                    first
                      | (with_reducible refine hK _ ?_; clear hK K)
                      | (with_reducible refine (if_neg ?_).mpr (hK _ ?_)
                         · decide
                         clear hK K)
                      | (apply Exists.intro
                         refine ⟨fun _ => ?_, hK _ ?_⟩
                         · with_reducible rfl
                         clear hK K)
                  refine wpQuiet_nil ?_
                  rintro _ ⟨nr, rfl⟩
                  go_wp2_with fail
                  refine ⟨⟨i + 1, k + 1, by go_num, by go_num, by omega, by omega, HD2, z + nq + nr, by simp [World.drewN, Nat.add_assoc]⟩, ?_⟩
                  simp [intOf]; omega
        · have hic : ¬ (i : Int) < (n : Int) := by omega
          obtain rfl : i = n := by omega
          have hkd : k = d := by
            have h1 := hDk.out
            rw [← HM.out.1, List.take_length] at h1
            have h2 := congrArg List.length (h1.one HD.out.2 (fun _ => Iff.rfl))
            rw [List.length_take, HD.out.1] at h2
            omega
          subst hkd
          obtain ⟨N, hN⟩ : ∃ N, blw M y = N := ⟨_, rfl⟩
          have HNN : Hid (blw M y = N) := hN
          have hN2 : blw l y = N := by rw [← blw_perm HM.out.2.2.2 y]; exact hN
          have hNi : N ≤ i := by have := blw_le M y; rw [HM.out.1, hN] at this; exact this
          have hB1 : Calls Try.prog 44 #[.slice (some ⟨G, 0, none⟩) i i, .float .f64 y] (w5.drewN z) fun e w' => e = .returned (.int .i64 (N : Int)) ∧ w' = w5.drewN z := by
            have h := Below_any G i i y M (w5.drewN z) (fun x hx => HF.out x (HM.out.2.2.2.mem_iff.1 hx)) HM.out.1 (by omega) hy (((hA2.out.keep K3.out).keep K5.out).keep (Keep.drewN _ _))
            rw [hN] at h
            exact h
          have hB2 : Calls Try.prog 44 #[.slice q1 i c1, .float .f64 y] (w5.drewN z) fun e w' => e = .returned (.int .i64 (N : Int)) ∧ w' = w5.drewN z := by
            have h := Below_rd q1 c1 i y l (w5.drewN z) HF.out HN.out (by omega) hy ((((HR1.out.keep K2.out).keep K3.out).keep K5.out).keep (Keep.drewN _ _))
            rw [hN2] at h
            exact h
          have KZ : Hid (Keep w (w5.drewN z)) := ((((K1.out.trans K2.out).trans K3.out).trans K5.out).trans (Keep.drewN _ _))
          have hc6 : Hid (∀ s, s < i → (w5.drewN z).cell? ⟨G, s, none⟩ = some (.float .f64 (M.getD s 0)) ∧ M.getD s 0 < 18446744073709551616) := fun s hs => ⟨(Keep.drewN w5 z).cell (hc5.out s hs).1, (hc5.out s hs).2⟩
          have hRN : Hid (∀ s, s < i → (key (M.getD s 0) < key y ↔ s < N)) := by
            intro s hs
            rw [← HNN.out]
            exact blw_srt y HM.out.2.1 s (by rw [HM.out.1]; exact hs)
          have t1 : True := trivial
          have cN0 : ¬ (N : Int) < 0 := by omega
          have cNi : ¬ (i : Int) < (N : Int) := by omega
          have cNi2 : ¬ i < N := by omega
          have hfy := fun wx => hf y wx
          clear hN hN2 hin hi hk hDk hc5 hDc hdn hrise
          generalize w5.drewN z = w6 at hB1 hB2 KZ hc6 ⊢
          go_wp2_with (first
            | (go_at_call 44; clear t1; refine hB1.mono ?_; rintro e w7 ⟨rfl, hw7⟩; rw [hw7]; clear hw7 w7)
            | (go_at_call 44; refine hB2.mono ?_; rintro e w7 ⟨rfl, hw7⟩; rw [hw7]; clear hw7 w7))
          go_loopw [13] (fun iv wr => ∃ s : Nat, iv = .int .i64 (s : Int) ∧ s ≤ i ∧ Hid (w6 = wr)) (fun iv _ => i - (intOf iv).toNat)
          case atStart => exact ⟨0, rfl, by omega, rfl⟩
          case round =>
            obtain ⟨s, rfl, hs, hwr⟩ := hrel
            replace hwr := hwr.out
            subst hwr
            by_cases hsn : s < i
            · have hsc : (s : Int) < (i : Int) := by omega
              obtain ⟨cx, hx64⟩ := hc6.out s hsn
              have hxr := hRN.out s hsn
              obtain ⟨x, hx0⟩ : ∃ x, M.getD s 0 = x := ⟨_, rfl⟩
              rw [hx0] at cx hx64 hxr
              by_cases hsN : s < N
              · have hP : Calls Try.prog 18 #[.float .f64 x, .float .f64 y] w6 fun e w' => e = .returned (.int .i64 (-1)) ∧ w' = w6 := by
                  have h := Compare_any x y w6 hx64 hy
                  rw [cmpV_lt (hxr.2 hsN)] at h
                  exact h
                have csN : (s : Int) < (N : Int) := by omega
                clear hxr hx0
                go_wp2_with (go_at_call 18; refine hP.mono ?_; rintro e w7 ⟨rfl, hw7⟩; rw [hw7]; clear hw7 w7)
                refine ⟨⟨s + 1, by go_num, by omega, trivial⟩, ?_⟩
                simp [intOf]; omega
              · obtain ⟨cv, hcv, hcn⟩ := cmpV_ge (x := x) (y := y) (fun q => hsN (hxr.1 q))
                have hP : Calls Try.prog 18 #[.float .f64 x, .float .f64 y] w6 fun e w' => e = .returned (.int .i64 cv) ∧ w' = w6 := by
                  have h := Compare_any x y w6 hx64 hy
                  rw [hcv] at h
                  exact h
                have csN : ¬ (s : Int) < (N : Int) := by omega
                clear hxr hx0 hcv
                go_wp2_with (go_at_call 18; refine hP.mono ?_; rintro e w7 ⟨rfl, hw7⟩; rw [hw7]; clear hw7 w7)
                refine ⟨⟨s + 1, by go_num, by omega, trivial⟩, ?_⟩
                simp [intOf]; omega
            · have hsc : ¬ (s : Int) < (i : Int) := by omega
              go_wp2_with fail
              go_ret
              exact ⟨rfl, KZ.out⟩
end Go.Proofs.Ytjiflgdbgpegiaa
