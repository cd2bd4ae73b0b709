import Derived.Test.YtbpfpldahmfjaaaGreatDoorX5a
set_option linter.unusedVariables false
set_option linter.unusedSimpArgs false
namespace Go.Proofs.YtbpfpldahmfjaaaGreatDoor.Su
open Go.RowKit Go.Shelf
theorem sums_parts (l : List Int) (k : Nat) : (l.take k).sum + (l.drop k).sum = l.sum := by rw [← List.sum_append, List.take_append_drop]
theorem I64.take {l : List Int} (h : I64 l) (k : Nat) : I64 (l.take k) := fun x hx => h x (List.mem_of_mem_take hx)
theorem I64.drop {l : List Int} (h : I64 l) (k : Nat) : I64 (l.drop k) := fun x hx => h x (List.mem_of_mem_drop hx)
set_option maxRecDepth 100000 in
set_option maxHeartbeats 1000000 in
theorem law_parts (a : Option Addr) (ca n : Nat) (l : List Int) (at' turn : Int) (w : World) (hB : Calls Tryz.prog 6 #[] w fun e w' => e = .returned (.bool true) ∧ Keep w w') (hn : l.length = n) (hca : n ≤ ca) (hl : n ≤ 17592186044400) (hr : Rd w a l) (hm : I64 l) :
    Calls Tryz.prog 4 #[.slice a n ca, .int .i64 at', .int .i64 turn] w fun e w' => e = .returned (.bool true) ∧ Keep w w' := by
  obtain ⟨A, hA⟩ : ∃ A : Nat, IntKind.u64.wrap at' = (A : Int) := ⟨(IntKind.u64.wrap at').toNat, by rw [IntKind.wrap_u64]; omega⟩
  obtain ⟨T, hT⟩ : ∃ T : Nat, IntKind.u64.wrap turn = (T : Int) := ⟨(IntKind.u64.wrap turn).toNat, by rw [IntKind.wrap_u64]; omega⟩
  have hw1 : IntKind.i64.wrap ((n : Int) + 1) = (n : Int) + 1 := by rw [IntWalk.i64_left]; exact IntWalk.wrap64_in _ (by omega)
  have hw2 : IntKind.u64.wrap ((n : Int) + 1) = (n : Int) + 1 := by rw [IntKind.wrap_u64]; omega
  obtain ⟨k, hk0⟩ : ∃ k : Nat, A % (n + 1) = k := ⟨_, rfl⟩
  have hk : Hid ((A : Int) % ((n : Int) + 1) = (k : Int)) := by unfold Hid; rw [← hk0]; simp
  have hkn : k ≤ n := by have := Nat.mod_lt A (show n + 1 > 0 by omega); omega
  clear hk0
  have hwk : wrap64 (k : Int) = (k : Int) := IntWalk.wrap64_in _ (by omega)
  have HN : Hid (l.length = n) := hn
  have HR : Hid (Rd w a l) := hr
  have HM : Hid (I64 l) := hm
  obtain ⟨t, ht⟩ : ∃ t, T % n = t := ⟨_, rfl⟩
  have HT : Hid (0 < n → t < n) := fun h => by rw [← ht]; exact Nat.mod_lt _ h
  have HTi : Hid (0 < n → (T : Int) % (n : Int) = (t : Int)) := fun h => by rw [← ht]; simp
  have hS : ∀ wx, Keep w wx → Calls Tryz.prog 10 #[.slice a n ca] wx fun e w' => e = .returned (.tuple #[.int .i64 (sumV l.sum), .int .i64 (sumE l.sum)]) ∧ Keep wx w' := fun wx kx => by
    have q := Sum_any a ca l wx (by omega) (hr.keep kx) hm
    rw [hn] at q
    exact q
  have hS2 : ∀ a' c' wx, Rd wx a' (rot l t) → Calls Tryz.prog 10 #[.slice a' n c'] wx fun e w' => e = .returned (.tuple #[.int .i64 (sumV l.sum), .int .i64 (sumE l.sum)]) ∧ Keep wx w' := fun a' c' wx hx => by
    have q := Sum_any a' c' (rot l t) wx (by rw [rot_len]; omega) hx (rot_i64 hm t)
    rw [rot_len, hn] at q
    have e : (rot l t).sum = l.sum := by
      by_cases h0 : 0 < n
      · exact rot_sum l t (by rw [hn]; exact HT.out h0)
      · have : l = [] := List.length_eq_zero_iff.1 (by omega)
        rw [this]
        rfl
    rw [e] at q
    exact q
  have hbig : n ≤ 70368744177664 := Nat.le_trans hl (by decide)
  obtain ⟨a1, hs1, hd1⟩ := run_head a n ca k (Nat.le_trans hkn hca)
  obtain ⟨a2, hs2, hd2⟩ := run_tail a n ca k hkn hca
  have hS3 : ∀ wx, Keep w wx → Calls Tryz.prog 10 #[.slice a1 k ca] wx fun e w' => e = .returned (.tuple #[.int .i64 (sumV (l.take k).sum), .int .i64 (sumE (l.take k).sum)]) ∧ Keep wx w' := fun wx kx => by
    have q := Sum_any a1 ca (l.take k) wx (Nat.le_trans (List.length_take_le _ _) (Nat.le_trans hkn hbig)) (hd1 wx l (hr.keep kx)) (hm.take k)
    rw [List.length_take, hn, Nat.min_eq_left hkn] at q
    exact q
  have hS4 : ∀ wx, Keep w wx → Calls Tryz.prog 10 #[.slice a2 (n - k) (ca - k)] wx fun e w' => e = .returned (.tuple #[.int .i64 (sumV (l.drop k).sum), .int .i64 (sumE (l.drop k).sum)]) ∧ Keep wx w' := fun wx kx => by
    have q := Sum_any a2 (ca - k) (l.drop k) wx (by rw [List.length_drop, hn]; exact Nat.le_trans (Nat.sub_le _ _) hbig) (hd2 wx l hn (hr.keep kx)) (hm.drop k)
    rw [List.length_drop, hn] at q
    exact q
  obtain ⟨X, hX⟩ : ∃ x, (l.take k).sum = x := ⟨_, rfl⟩
  obtain ⟨Y, hY⟩ : ∃ x, (l.drop k).sum = x := ⟨_, rfl⟩
  have HXY : Hid (l.sum = X + Y) := by rw [← hX, ← hY]; exact (sums_parts l k).symm
  rw [hX] at hS3
  rw [hY] at hS4
  clear hn hr hm hd1 hd2 hX hY ht
  obtain ⟨S, hSs⟩ : ∃ x, l.sum = x := ⟨_, rfl⟩
  rw [hSs] at hS hS2
  have HSS : Hid (S = X + Y) := by rw [← hSs]; exact HXY.out
  clear hSs HXY
  obtain ⟨SV, hSV⟩ : ∃ x, sumV S = x := ⟨_, rfl⟩
  obtain ⟨SE, hSE⟩ : ∃ x, sumE S = x := ⟨_, rfl⟩
  rw [hSV, hSE] at hS hS2
  have HSV : Hid (sumV S = SV) := hSV
  have HSE : Hid (sumE S = SE) := hSE
  clear hSV hSE
  replace hk := hk.out
  go_enter Tryz.func4, Tryz.ntmps4
  go_wp2_with (first
    | (go_at_call 6; refine hB.mono ?_; rintro e w1 ⟨rfl, k1⟩; have K1 : Hid (Keep w w1) := k1; clear k1)
    | (go_at_call 10; refine (hS _ K1.out).mono ?_; rintro e w2 ⟨rfl, k2⟩; have K2 : Hid (Keep w w2) := K1.out.trans k2; clear k2))
  clear hS hB hk hw1 hw2 hA
  go_loopw [11, 12] (fun v iv wr => ∃ i : Nat, iv = .int .i64 (i : Int) ∧ i ≤ n ∧ wr.ownsRow w2.heap.size 2 1 v i (UZ ((rot l t).take i)) ∧ Keep w2 wr) (fun _ iv _ => n - (intOf iv).toNat)
  case atStart => exact ⟨0, rfl, by omega, own_nil 2 1 _ _, Keep.refl _⟩
  case round =>
    obtain ⟨i, rfl, hi, hown, kw⟩ := hrel
    by_cases hin : i < n
    · have hic : (i : Int) < (n : Int) := by omega
      have hn0 : 0 < n := by omega
      have htn := HT.out hn0
      have hTt := HTi.out hn0
      obtain ⟨j, hj⟩ : ∃ j, (i + t) % n = j := ⟨_, rfl⟩
      have hjn : j < n := by rw [← hj]; exact Nat.mod_lt _ hn0
      have hji : ((i : Int) + (t : Int)) % (n : Int) = (j : Int) := by rw [← hj]; simp
      have hwi : IntKind.u64.wrap (i : Int) = (i : Int) := by rw [IntKind.wrap_u64]; omega
      have hwn : IntKind.u64.wrap (n : Int) = (n : Int) := by rw [IntKind.wrap_u64]; omega
      have hwt : IntKind.u64.wrap ((i : Int) + (t : Int)) = (i : Int) + (t : Int) := by rw [IntKind.wrap_u64]; omega
      have hnz : ((n : Int) == 0) = false := by rw [beq_eq_false_iff_ne]; omega
      have hnz2 : ¬ (n : Int) = 0 := by omega
      have hjc : (j : Int) < (n : Int) := by omega
      obtain ⟨g, o, rfl, cx0⟩ := HR.out j (by rw [HN.out]; exact hjn)
      have cx := (K2.out.trans kw).cell cx0
      have htk : UZ ((rot l t).take (i + 1)) = UZ ((rot l t).take i) ++ UZ [l.getD j 0] := by
        rw [rot_take l t i (by rw [HN.out]; exact hin), HN.out, hj]
        unfold UZ
        rw [List.map_append]
      generalize l.getD j 0 = x at cx htk
      clear cx0 hj
      go_wp2_with (at_builtin; refine wpList_appG Tryz.underlying28 i2x rfl w2.heap.size _ rfl _ _ rfl i (UZ ((rot l t).take i)) (UZ [x]) _ rfl (own_keep hown ((Keep.refl _).alloc _)) (kw.alloc (Obj.cells #[.int .i64 x] 2)).le ⟨wr.heap.size, 0, none⟩ 1 rfl rfl (newsZ wr x) (UZ_one _) (by omega) ?_; intro v7 w7 o7 g7; have k7 := keep_grown (kw.alloc _) (own_keep hown ((Keep.refl _).alloc _)) g7)
      refine ⟨⟨i + 1, by go_num, by omega, by rw [htk]; exact o7, k7⟩, ?_⟩
      simp [intOf]; omega
    · have hic : ¬ (i : Int) < (n : Int) := by omega
      obtain rfl : i = n := by omega
      have hfull : (rot l t).take i = rot l t := List.take_of_length_le (by rw [rot_len, HN.out]; exact Nat.le_refl _)
      rw [hfull] at hown
      obtain ⟨a3, c3, rfl, hr3⟩ := own_rd (by rw [rot_len, HN.out]) hown
      have hS5 := hS2 a3 c3 wr hr3
      have KW : Hid (Keep w wr) := K2.out.trans kw
      have hAdd : ∀ wx, Hid (sumE X = 0) → Hid (sumE Y = 0) → Calls Tryz.prog 11 #[.int .i64 (sumV X), .int .i64 (sumV Y)] wx fun e w' => e = .returned (.tuple #[.int .i64 SV, .int .i64 SE]) ∧ Keep wx w' := fun wx e1 e2 => by
        have f1 : sumV X = X ∧ (-9223372036854775808 ≤ X ∧ X ≤ 9223372036854775807) := by
          have := e1.out
          unfold sumE at this
          unfold sumV
          by_cases q : -9223372036854775808 ≤ X ∧ X ≤ 9223372036854775807
          · rw [if_pos q]; exact ⟨rfl, q⟩
          · rw [if_neg q] at this; cases this
        have f2 : sumV Y = Y ∧ (-9223372036854775808 ≤ Y ∧ Y ≤ 9223372036854775807) := by
          have := e2.out
          unfold sumE at this
          unfold sumV
          by_cases q : -9223372036854775808 ≤ Y ∧ Y ≤ 9223372036854775807
          · rw [if_pos q]; exact ⟨rfl, q⟩
          · rw [if_neg q] at this; cases this
        have q := Add_any X Y wx f1.2 f2.2
        rw [← HSS.out, HSV.out, HSE.out] at q
        rw [f1.1, f2.1]
        exact q
      obtain ⟨XV, hXV⟩ : ∃ x, sumV X = x := ⟨_, rfl⟩
      obtain ⟨XE, hXE⟩ : ∃ x, sumE X = x := ⟨_, rfl⟩
      obtain ⟨YV, hYV⟩ : ∃ x, sumV Y = x := ⟨_, rfl⟩
      obtain ⟨YE, hYE⟩ : ∃ x, sumE Y = x := ⟨_, rfl⟩
      rw [hXV, hYV, hXE, hYE] at hAdd
      rw [hXV, hXE] at hS3
      rw [hYV, hYE] at hS4
      clear hXV hXE hYV hYE hS2 hown hr3 hfull kw hl hca hkn hbig
      have hsv : (SV != SV) = false := by simp
      have hse : (SE != SE) = false := by simp
      by_cases g1 : XE = 0
      · have G1 : Hid (XE = 0) := g1
        have g1b : (XE != 0) = false := by rw [g1]; rfl
        by_cases g2 : YE = 0
        · have G2 : Hid (YE = 0) := g2
          have g2b : (YE != 0) = false := by rw [g2]; rfl
          clear g1 g2
          have t1 : True := trivial
          have t2 : True := trivial
          have t3 : True := trivial
          go_wp2_with (first
            | (go_at_call 10; clear t1; refine hS5.mono ?_; rintro e w4 ⟨rfl, k4⟩; have K4 : Hid (Keep w w4) := KW.out.trans k4; clear k4 hS5)
            | (go_at_call 10; clear t2; refine (hS3 _ K4.out).mono ?_; rintro e w5 ⟨rfl, k5⟩; have K5 : Hid (Keep w w5) := K4.out.trans k5; clear k5 hS3)
            | (go_at_call 10; clear t3; refine (hS4 _ K5.out).mono ?_; rintro e w6 ⟨rfl, k6⟩; have K6 : Hid (Keep w w6) := K5.out.trans k6; clear k6 hS4)
            | (go_at_call 11; refine (hAdd _ G1 G2).mono ?_; rintro e w7 ⟨rfl, k7⟩; have K7 : Hid (Keep w w7) := K6.out.trans k7; clear k7))
          go_ret
          exact ⟨by simp, K7.out⟩
        · have g2b : (YE != 0) = true := by simpa using g2
          clear g1 g2 hAdd
          have t1 : True := trivial
          have t2 : True := trivial
          have t3 : True := trivial
          go_wp2_with (first
            | (go_at_call 10; clear t1; refine hS5.mono ?_; rintro e w4 ⟨rfl, k4⟩; have K4 : Hid (Keep w w4) := KW.out.trans k4; clear k4 hS5)
            | (go_at_call 10; clear t2; refine (hS3 _ K4.out).mono ?_; rintro e w5 ⟨rfl, k5⟩; have K5 : Hid (Keep w w5) := K4.out.trans k5; clear k5 hS3)
            | (go_at_call 10; clear t3; refine (hS4 _ K5.out).mono ?_; rintro e w6 ⟨rfl, k6⟩; have K6 : Hid (Keep w w6) := K5.out.trans k6; clear k6 hS4))
          go_ret
          exact ⟨rfl, K6.out⟩
      · have g1b : (XE != 0) = true := by simpa using g1
        clear g1 hAdd
        have t1 : True := trivial
        have t2 : True := trivial
        have t3 : True := trivial
        go_wp2_with (first
          | (go_at_call 10; clear t1; refine hS5.mono ?_; rintro e w4 ⟨rfl, k4⟩; have K4 : Hid (Keep w w4) := KW.out.trans k4; clear k4 hS5)
          | (go_at_call 10; clear t2; refine (hS3 _ K4.out).mono ?_; rintro e w5 ⟨rfl, k5⟩; have K5 : Hid (Keep w w5) := K4.out.trans k5; clear k5 hS3)
          | (go_at_call 10; clear t3; refine (hS4 _ K5.out).mono ?_; rintro e w6 ⟨rfl, k6⟩; have K6 : Hid (Keep w w6) := K5.out.trans k6; clear k6 hS4))
        go_ret
        exact ⟨rfl, K6.out⟩
end Go.Proofs.YtbpfpldahmfjaaaGreatDoor.Su
