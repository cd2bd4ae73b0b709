import Derived.Test.YtpdjpjkieafnbaaGreatDoorSH6
import Derived.Deep.RegionHeld3
set_option linter.unusedVariables false
set_option linter.unusedSimpArgs false
namespace Go.Proofs.YtpdjpjkieafnbaaGreatDoor.Li
open Go.RowKit Lb Nr
set_option maxRecDepth 100000 in
set_option maxHeartbeats 800000 in
theorem layOut_any (d : List UInt8) (p : Int) (w : World) (hd : 1 ≤ d.length ∧ d.length ≤ 20) (hp : -1000 ≤ p ∧ p ≤ 1000) (htab : Lib.TabIs Tryz.prog w "internal/strconv.uint64pow10" .u64 Lib.pow10Tab) :
    Calls Tryz.prog 100 #[.string ⟨d.toArray⟩, .int .i64 p] w fun e w' => e = .returned (.string ⟨(loT d p).toArray⟩) ∧ Keep w w' := by
  have hsz : (ByteArray.mk d.toArray).size = d.length := sz_mk d
  obtain ⟨n, hn⟩ : ∃ n, d.length = n := ⟨_, rfl⟩
  obtain ⟨x, hx⟩ : ∃ x : Int, (n : Int) + p = x := ⟨_, rfl⟩
  have HLT : Hid (loT d p = loT d p) := rfl
  unfold loT at HLT
  have HL := HLT.out.symm
  replace HL : loT d p = _ := HLT.out
  rw [hn, hx] at HL
  rw [hn] at hsz hd
  obtain ⟨hd1, hd2⟩ := hd
  obtain ⟨hp1, hp2⟩ := hp
  generalize loT d p = R at *
  have HN : Hid (d.length = n) := hn
  clear HLT hn
  have wz : IntKind.i64.wrap (x - (n : Int)) = p := by rw [IntWalk.i64_left, show x - (n : Int) = p by omega]; exact IntWalk.wrap64_in _ (by omega)
  by_cases c1 : (n : Int) ≤ x ∧ x ≤ 21
  · rw [if_pos c1] at HL
    obtain ⟨k, hk⟩ : ∃ k : Nat, p = (k : Int) := ⟨p.toNat, by omega⟩
    have hR := fun wx => rpZ k (by omega) wx
    have hcat := catB d (List.replicate k 48)
    rw [hk, Int.toNat_natCast] at HL
    have hrs : (ByteArray.mk (List.replicate k (48 : UInt8)).toArray).size = k := by rw [sz_mk, List.length_replicate]
    have hkb : k ≤ 1000 := by omega
    generalize List.replicate k (48 : UInt8) = rp at *
    have HR : Hid (R = d ++ rp) := HL
    rw [HR.out]
    have q1 : decide ((n : Int) ≤ x) = true := decide_eq_true c1.1
    have q2 : decide (x ≤ 21) = true := decide_eq_true c1.2
    have hx2 : x - (n : Int) = (k : Int) := by omega
    clear HL c1 HR wz
    subst hk
    clear hp1 hp2 htab
    go_enter Tryz.func100, Tryz.ntmps100
    go_wp2_with fail
    refine (hR _).mono ?_
    rintro e w2 ⟨rfl, k2⟩
    go_wp2_with fail
    go_ret
    exact ⟨rfl, k2⟩
  · rw [if_neg c1] at HL
    by_cases c2 : 0 < x ∧ x ≤ 21
    · rw [if_pos c2] at HL
      obtain ⟨k, rfl⟩ : ∃ k : Nat, x = (k : Int) := ⟨x.toNat, by omega⟩
      rw [Int.toNat_natCast] at HL
      have q1 : decide (n ≤ k) = false := decide_eq_false (by omega)
      have q2 : decide ((k : Int) ≤ 21) = true := decide_eq_true (by omega)
      have q2' : decide (k ≤ 21) = true := decide_eq_true (by omega)
      have q3 : decide (0 < k) = true := decide_eq_true (by omega)
      have q3' : decide ((0 : Int) < (k : Int)) = true := decide_eq_true (by omega)
      have q1' : decide ((n : Int) ≤ (k : Int)) = false := decide_eq_false (by omega)
      have hS1 := fun wx => run_upto d k (by have := HN.out; omega) wx
      have hS2 := fun wx => run_from d k (by have := HN.out; omega) wx
      have s1 : (ByteArray.mk (d.take k).toArray).size ≤ 20 := by rw [sz_mk, List.length_take]; have := HN.out; omega
      have s2 : (ByteArray.mk (d.drop k).toArray).size ≤ 20 := by rw [sz_mk, List.length_drop]; have := HN.out; omega
      have hcat1 : ByteArray.mk (d.take k).toArray ++ ByteArray.mk #[46] = ⟨(d.take k ++ [46]).toArray⟩ := catB (d.take k) [46]
      have hcat2 := catB (d.take k ++ [46]) (d.drop k)
      have s3 : (ByteArray.mk (d.take k ++ [46]).toArray).size ≤ 21 := by rw [sz_mk, List.length_append, List.length_take]; show _ + 1 ≤ _; have := HN.out; omega
      have HR : Hid (R = d.take k ++ [46] ++ d.drop k) := by unfold Hid; rw [HL, List.append_assoc]; rfl
      rw [HR.out]
      generalize d.take k ++ [46] ++ d.drop k = F at *
      generalize d.take k ++ [46] = F1 at *
      generalize d.take k = F2 at *
      generalize d.drop k = F3 at *
      obtain ⟨zs1, es1⟩ : ∃ z, (ByteArray.mk F2.toArray).size = z := ⟨_, rfl⟩
      rw [es1] at s1
      obtain ⟨zs2, es2⟩ : ∃ z, (ByteArray.mk F3.toArray).size = z := ⟨_, rfl⟩
      rw [es2] at s2
      obtain ⟨zs3, es3⟩ : ∃ z, (ByteArray.mk F1.toArray).size = z := ⟨_, rfl⟩
      rw [es3] at s3
      clear HL c1 c2 HR wz htab
      go_enter Tryz.func100, Tryz.ntmps100
      go_upto_region 6 with fail
      go_region_with fail
      all_goals (go_wp2_with fail; go_ret; exact ⟨rfl, by first | exact Keep.refl _ | exact (Keep.refl _).drewN _ | exact (Keep.refl _).drew⟩)
    · rw [if_neg c2] at HL
      by_cases c3 : -6 < x ∧ x ≤ 0
      · rw [if_pos c3] at HL
        obtain ⟨k, hk⟩ : ∃ k : Nat, -x = (k : Int) := ⟨(-x).toNat, by omega⟩
        rw [hk, Int.toNat_natCast] at HL
        have q1 : decide ((n : Int) ≤ x) = false := decide_eq_false (by omega)
        have q3 : decide (0 < x) = false := decide_eq_false (by omega)
        have q4 : decide (-6 < x) = true := decide_eq_true c3.1
        have q5 : decide (x ≤ 0) = true := decide_eq_true c3.2
        have hR := fun wx => rpZ k (by omega) wx
        have hcat1 := catB [48, 46] (List.replicate k 48)
        have hcat2 := catB ([48, 46] ++ List.replicate k 48) d
        have s1 : (ByteArray.mk (List.replicate k (48 : UInt8)).toArray).size ≤ 10 := by rw [sz_mk, List.length_replicate]; omega
        have s2 : (ByteArray.mk ([48, 46] ++ List.replicate k (48 : UInt8)).toArray).size ≤ 12 := by rw [sz_mk, List.length_append, List.length_replicate]; show 2 + k ≤ _; omega
        have HR : Hid (R = [48, 46] ++ List.replicate k 48 ++ d) := by unfold Hid; rw [HL]; rfl
        have hcat1 : ByteArray.mk #[48, 46] ++ ByteArray.mk (List.replicate k (48 : UInt8)).toArray = ⟨([48, 46] ++ List.replicate k (48 : UInt8)).toArray⟩ := hcat1
        rw [HR.out]
        generalize [48, 46] ++ List.replicate k (48 : UInt8) ++ d = F at *
        generalize [48, 46] ++ List.replicate k (48 : UInt8) = F1 at *
        generalize List.replicate k (48 : UInt8) = F2 at *
        obtain ⟨zs1, es1⟩ : ∃ z, (ByteArray.mk F2.toArray).size = z := ⟨_, rfl⟩
        rw [es1] at s1
        obtain ⟨zs2, es2⟩ : ∃ z, (ByteArray.mk F1.toArray).size = z := ⟨_, rfl⟩
        rw [es2] at s2
        clear HL c1 c2 c3 HR wz htab
        go_enter Tryz.func100, Tryz.ntmps100
        go_wp2_with fail
        refine (hR _).mono ?_
        rintro e w2 ⟨rfl, k2⟩
        go_wp2_with fail
        go_ret
        exact ⟨rfl, k2⟩
      · rw [if_neg c3] at HL
        obtain ⟨y, hy⟩ : ∃ y : Int, x - 1 = y := ⟨_, rfl⟩
        have hW := fun wx h => withSign_any y wx (by omega) h
        have hTb : Hid (Lib.TabIs Tryz.prog w "internal/strconv.uint64pow10" .u64 Lib.pow10Tab) := htab
        have hws : (ByteArray.mk (wsT y).toArray).size ≤ 6 := by
          rw [sz_mk]
          unfold wsT
          have := dD_few (n := y.natAbs) (by omega)
          rw [List.length_cons]
          omega
        rw [hy] at HL
        have hd0 : Hid (1 ≤ d.length) := by have := HN.out; unfold Hid; omega
        generalize wsT y = ws at *
        have hq : (decide ((n : Int) ≤ x) && decide (x ≤ 21)) = false ∧ (decide (0 < x) && decide (x ≤ 21)) = false ∧ (decide (-6 < x) && decide (x ≤ 0)) = false := by
          refine ⟨?_, ?_, ?_⟩
          · rw [← Bool.decide_and]; exact decide_eq_false c1
          · rw [← Bool.decide_and]; exact decide_eq_false c2
          · rw [← Bool.decide_and]; exact decide_eq_false c3
        obtain ⟨b1, hb1⟩ : ∃ b, decide ((n : Int) ≤ x) = b := ⟨_, rfl⟩
        obtain ⟨b2, hb2⟩ : ∃ b, decide (x ≤ 21) = b := ⟨_, rfl⟩
        obtain ⟨b3, hb3⟩ : ∃ b, decide (0 < x) = b := ⟨_, rfl⟩
        obtain ⟨b4, hb4⟩ : ∃ b, decide (-6 < x) = b := ⟨_, rfl⟩
        obtain ⟨b5, hb5⟩ : ∃ b, decide (x ≤ 0) = b := ⟨_, rfl⟩
        rw [hb1, hb2, hb3, hb4, hb5] at hq
        have hx1 : Hid (x - 1 = y) := hy
        have wy : IntKind.i64.wrap (x - 1) = y := by rw [IntWalk.i64_left, hy]; exact IntWalk.wrap64_in _ (by omega)
        have wx0 : IntKind.i64.wrap ((n : Int) + p) = x := by rw [IntWalk.i64_left, hx]; exact IntWalk.wrap64_in _ (by omega)
        clear c1 c2 c3 wz htab
        by_cases c5 : 1 < n
        · have q6 : decide (1 < n) = true := decide_eq_true c5
          rw [if_pos c5] at HL
          have hS1 : ∀ wx, (Instr.slice 9 (.string ⟨d.toArray⟩) none (some (.int .i64 1)) none).run Tryz.prog wx = .ok (.string ⟨(d.take 1).toArray⟩) wx := fun wx => run_upto d 1 (by have := HN.out; omega) wx
          have hS2 : ∀ wx, (Instr.slice 9 (.string ⟨d.toArray⟩) (some (.int .i64 1)) none none).run Tryz.prog wx = .ok (.string ⟨(d.drop 1).toArray⟩) wx := fun wx => run_from d 1 (by have := HN.out; omega) wx
          have s1 : (ByteArray.mk (d.take 1).toArray).size ≤ 20 := by rw [sz_mk, List.length_take]; omega
          have s2 : (ByteArray.mk (d.drop 1).toArray).size ≤ 20 := by rw [sz_mk, List.length_drop]; have := HN.out; omega
          have hcat1 : ByteArray.mk (d.take 1).toArray ++ ByteArray.mk #[46] = ⟨(d.take 1 ++ [46]).toArray⟩ := catB (d.take 1) [46]
          have hcat2 := catB (d.take 1 ++ [46]) (d.drop 1)
          have s3 : (ByteArray.mk (d.take 1 ++ [46]).toArray).size ≤ 21 := by rw [sz_mk, List.length_append, List.length_take]; show _ + 1 ≤ _; omega
          have s4 : (ByteArray.mk (d.take 1 ++ [46] ++ d.drop 1).toArray).size ≤ 41 := by
            rw [sz_mk, List.length_append, List.length_append, List.length_take, List.length_drop]
            have := HN.out
            show _ + 1 + _ ≤ _
            omega
          have hcat3 : ByteArray.mk (d.take 1 ++ [46] ++ d.drop 1).toArray ++ ByteArray.mk #[101] = ⟨(d.take 1 ++ [46] ++ d.drop 1 ++ [101]).toArray⟩ := catB _ [101]
          have hcat4 := catB (d.take 1 ++ [46] ++ d.drop 1 ++ [101]) ws
          have s5 : (ByteArray.mk (d.take 1 ++ [46] ++ d.drop 1 ++ [101]).toArray).size ≤ 42 := by
            rw [sz_mk, List.length_append, ← sz_mk]
            show _ + 1 ≤ _
            omega
          have HR : Hid (R = d.take 1 ++ [46] ++ d.drop 1 ++ [101] ++ ws) := by
            unfold Hid
            rw [HL]
            simp
          rw [HR.out]
          generalize d.take 1 ++ [46] ++ d.drop 1 ++ [101] ++ ws = G5 at *
          generalize d.take 1 ++ [46] ++ d.drop 1 ++ [101] = G4 at *
          generalize d.take 1 ++ [46] ++ d.drop 1 = G3 at *
          generalize d.take 1 ++ [46] = G2 at *
          generalize d.take 1 = G1 at *
          generalize d.drop 1 = G0 at *
          obtain ⟨zs1, es1⟩ : ∃ z, (ByteArray.mk G1.toArray).size = z := ⟨_, rfl⟩
          rw [es1] at s1
          obtain ⟨zs2, es2⟩ : ∃ z, (ByteArray.mk G0.toArray).size = z := ⟨_, rfl⟩
          rw [es2] at s2
          obtain ⟨zs3, es3⟩ : ∃ z, (ByteArray.mk G2.toArray).size = z := ⟨_, rfl⟩
          rw [es3] at s3
          obtain ⟨zs4, es4⟩ : ∃ z, (ByteArray.mk G3.toArray).size = z := ⟨_, rfl⟩
          rw [es4] at s4
          obtain ⟨zs5, es5⟩ : ∃ z, (ByteArray.mk G4.toArray).size = z := ⟨_, rfl⟩
          rw [es5] at s5
          obtain ⟨zws, ews⟩ : ∃ z, (ByteArray.mk ws.toArray).size = z := ⟨_, rfl⟩
          rw [ews] at hws
          clear HL HR hd1 hd2 hp1 hp2 hx hy
          cases b1 <;> cases b2 <;> cases b3 <;> cases b4 <;> cases b5 <;> first
            | (exfalso; revert hq; decide)
            | (clear hq
               go_enter Tryz.func100, Tryz.ntmps100
               go_upto_region 10 with fail
               go_region_with fail
               all_goals (go_wp2_with fail; refine (hW _ (by first | exact hTb.out | exact Lib.tabIs_drewN hTb.out _)).mono ?_; rintro e w2 ⟨rfl, k2⟩; go_wp2_with fail; go_ret; exact ⟨rfl, by first | exact k2 | exact (Keep.refl _).drew.trans k2 | exact ((Keep.refl _).drewN _).trans k2⟩))
        · have q6 : decide (1 < n) = false := decide_eq_false c5
          rw [if_neg c5] at HL
          have hcat3 : ByteArray.mk d.toArray ++ ByteArray.mk #[101] = ⟨(d ++ [101]).toArray⟩ := catB _ [101]
          have hcat4 := catB (d ++ [101]) ws
          have s5 : (ByteArray.mk (d ++ [101]).toArray).size ≤ 42 := by
            rw [sz_mk, List.length_append, ← sz_mk]
            show _ + 1 ≤ _
            omega
          have HR : Hid (R = d ++ [101] ++ ws) := by
            unfold Hid
            rw [HL]
            simp
          rw [HR.out]
          generalize d ++ [101] ++ ws = G5 at *
          generalize d ++ [101] = G4 at *
          obtain ⟨zs5, es5⟩ : ∃ z, (ByteArray.mk G4.toArray).size = z := ⟨_, rfl⟩
          rw [es5] at s5
          obtain ⟨zws, ews⟩ : ∃ z, (ByteArray.mk ws.toArray).size = z := ⟨_, rfl⟩
          rw [ews] at hws
          clear HL HR hd1 hd2 hp1 hp2 hx hy
          cases b1 <;> cases b2 <;> cases b3 <;> cases b4 <;> cases b5 <;> first
            | (exfalso; revert hq; decide)
            | (clear hq
               go_enter Tryz.func100, Tryz.ntmps100
               go_wp2_with fail
               refine (hW _ hTb.out).mono ?_
               rintro e w2 ⟨rfl, k2⟩
               go_wp2_with fail
               go_ret
               exact ⟨rfl, k2⟩)
end Go.Proofs.YtpdjpjkieafnbaaGreatDoor.Li
