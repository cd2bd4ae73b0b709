import Derived.Test.YtpdjpjkieafnbaaGreatDoorR5
set_option linter.unusedVariables false
set_option linter.unusedSimpArgs false
namespace Go.Proofs.YtpdjpjkieafnbaaGreatDoor.Li
open Go.RowKit Lb
set_option maxRecDepth 100000 in
set_option maxHeartbeats 1000000 in
theorem cp_yes_false_e (ng : Bool) (wh pt : List UInt8) (s : List UInt8) (k : Nat) (w : World) (hs : s.length ≤ 4096) (h : k < s.length) (x : Nat) (hi : Lib.indexByte [101, 69] (s.getD k 0) = (x : Int)) (g : k + 1 = s.length) (ds : List UInt8) (hds : (s.drop (k + 1)).takeWhile isD = ds) (ok : Bool) (hok : (decide (0 < ds.length) && decide (k + 1 + ds.length = s.length)) = ok) :
    Calls Tryz.prog 135 #[.agg #[.bool ng, .bool false, .string ⟨wh.toArray⟩, .string ⟨pt.toArray⟩, .bool false, .string ⟨#[]⟩], .string ⟨s.toArray⟩, .int .i64 (k : Int)] w fun e w' => e = .returned (.tuple #[.agg #[.bool ng, .bool false, .string ⟨wh.toArray⟩, .string ⟨pt.toArray⟩, .bool false, .string ⟨ds.toArray⟩], .int .i64 ((k + 1 + ds.length : Nat) : Int), .bool ok]) ∧ Keep w w' := by
  have hlen : ((k : Int) == (s.length : Int)) = false := by rw [beq_eq_false_iff_ne]; omega
  have hix := fun wx => run_ix s k h wx
  have hI := fun wx => ix_any [101, 69] (s.getD k 0) wx
  rw [hi] at hI
  obtain ⟨c, hc⟩ : ∃ c, (s.getD k 0).toNat = c := ⟨_, rfl⟩
  rw [hc] at hI hix
  clear hc hi
  have q0 : decide ((k : Int) + 1 < (s.length : Int)) = false := decide_eq_false (by omega)
  have hJl : k + 1 ≤ s.length := by omega
  have hfr : ∀ wx, (Instr.slice 9 (.string ⟨s.toArray⟩) (some (.int .i64 ((k : Int) + 1))) none none).run Tryz.prog wx = .ok (.string ⟨(s.drop (k + 1)).toArray⟩) wx := fun wx => by
    have := run_from s (k + 1) hJl wx
    rw [show (((k + 1 : Nat)) : Int) = ((k : Int) + 1) by omega] at this
    exact this
  have hD := fun wx => digitRun_any (s.drop (k + 1)) false wx (by rw [List.length_drop]; omega)
  rw [isX_fun, hds] at hD
  obtain ⟨t1, t2⟩ := tw_cut isD s (k + 1)
  rw [hds] at t1 t2
  have t3 := t2 hJl
  have hct : ∀ wx, (Instr.slice 9 (.string ⟨s.toArray⟩) (some (.int .i64 ((k : Int) + 1))) (some (.int .i64 (((k : Int) + 1) + (ds.length : Int)))) none).run Tryz.prog wx = .ok (.string ⟨ds.toArray⟩) wx := fun wx => by
    have := run_cut s (k + 1) (k + 1 + ds.length) (by omega) t3 wx
    rw [t1, show (((k + 1 : Nat)) : Int) = ((k : Int) + 1) by omega, show (((k + 1 + ds.length : Nat)) : Int) = ((k : Int) + 1) + (ds.length : Int) by omega] at this
    exact this
  have hsz : (ByteArray.mk s.toArray).size = s.length := sz_mk s
  have hres : (((k + 1 + ds.length : Nat)) : Int) = ((k : Int) + 1) + (ds.length : Int) := by omega
  rw [hres]
  have hk4 : k ≤ 4096 := by omega
  have hn4 : k + 1 + ds.length ≤ 4096 := by omega
  obtain ⟨n, hn⟩ : ∃ n, ds.length = n := ⟨_, rfl⟩
  obtain ⟨L, hL⟩ : ∃ L, s.length = L := ⟨_, rfl⟩
  rw [hn] at hD hct t3 hok hn4 ⊢
  rw [hL] at hsz hlen q0 hok t3
  have hn0 : decide ((0 : Int) < (n : Int)) = decide (0 < n) := by by_cases z : 0 < n <;> simp [z]
  have hL0 : ((((k : Int) + 1) + (n : Int)) == (L : Int)) = decide (k + 1 + n = L) := by
    by_cases z : k + 1 + n = L
    · rw [decide_eq_true z, beq_iff_eq]; omega
    · rw [decide_eq_false z, beq_eq_false_iff_ne]; omega
  have Hok : Hid ((decide (0 < n) && decide (k + 1 + n = L)) = ok) := hok
  generalize (s.drop (k + 1)) = sd at hfr hD
  clear hok hL hn hds t1 t2 t3 h hs hres
  go_enter Tryz.func135, Tryz.ntmps135
  go_wp2_with fail
  refine (hI _).mono ?_
  rintro e wz ⟨rfl, hz⟩
  rw [hz]
  clear hz
  go_wp2_with fail
  refine (hD _).mono ?_
  rintro e w2 ⟨rfl, p, rfl⟩
  by_cases z0 : 0 < n
  · have y0 : decide (0 < n) = true := decide_eq_true z0
    have Hok2 : Hid (decide (k + 1 + n = L) = ok) := by have := Hok.out; rw [y0, Bool.true_and] at this; exact this
    rw [Hok2.out] at hL0
    rw [y0] at hn0
    clear Hok z0
    go_wp2_with fail
    exact bodyPost_ret (results_sp rfl _ _ (w.heap.size + 1) _ _ _ _ _ _ rfl (Sp.threeN w _ _ _)) rfl ⟨rfl, Keep.threeN w _ _ _⟩
  · have y0 : decide (0 < n) = false := decide_eq_false z0
    have Hok2 : Hid (ok = false) := by have := Hok.out; rw [y0, Bool.false_and] at this; exact this.symm
    rw [y0] at hn0
    clear Hok z0
    go_wp2_with fail
    exact bodyPost_ret (results_sp rfl _ _ (w.heap.size + 1) _ _ _ _ _ _ rfl (Sp.threeN w _ _ _)) rfl ⟨by rw [Hok2.out]; rfl, Keep.threeN w _ _ _⟩
set_option maxRecDepth 100000 in
set_option maxHeartbeats 1000000 in
theorem cp_yes_false_n (ng : Bool) (wh pt : List UInt8) (s : List UInt8) (k : Nat) (w : World) (hs : s.length ≤ 4096) (h : k < s.length) (x : Nat) (hi : Lib.indexByte [101, 69] (s.getD k 0) = (x : Int)) (g : k + 1 < s.length) (g1 : (s.getD (k + 1) 0).toNat ≠ 43) (g2 : (s.getD (k + 1) 0).toNat ≠ 45) (ds : List UInt8) (hds : (s.drop (k + 1)).takeWhile isD = ds) (ok : Bool) (hok : (decide (0 < ds.length) && decide (k + 1 + ds.length = s.length)) = ok) :
    Calls Tryz.prog 135 #[.agg #[.bool ng, .bool false, .string ⟨wh.toArray⟩, .string ⟨pt.toArray⟩, .bool false, .string ⟨#[]⟩], .string ⟨s.toArray⟩, .int .i64 (k : Int)] w fun e w' => e = .returned (.tuple #[.agg #[.bool ng, .bool false, .string ⟨wh.toArray⟩, .string ⟨pt.toArray⟩, .bool false, .string ⟨ds.toArray⟩], .int .i64 ((k + 1 + ds.length : Nat) : Int), .bool ok]) ∧ Keep w w' := by
  have hlen : ((k : Int) == (s.length : Int)) = false := by rw [beq_eq_false_iff_ne]; omega
  have hix := fun wx => run_ix s k h wx
  have hI := fun wx => ix_any [101, 69] (s.getD k 0) wx
  rw [hi] at hI
  obtain ⟨c, hc⟩ : ∃ c, (s.getD k 0).toNat = c := ⟨_, rfl⟩
  rw [hc] at hI hix
  clear hc hi
  have q0 : decide ((k : Int) + 1 < (s.length : Int)) = true := decide_eq_true (by omega)
  have hix1 : ∀ wx, (Instr.index 9 (.string ⟨s.toArray⟩) (.int .i64 ((k : Int) + 1))).run Tryz.prog wx = .ok (.int .u8 ((s.getD (k + 1) 0).toNat : Nat)) wx := fun wx => run_ix s (k + 1) g wx
  obtain ⟨d, hd⟩ : ∃ d, (s.getD (k + 1) 0).toNat = d := ⟨_, rfl⟩
  rw [hd] at hix1 g1 g2
  have q1 : ((d : Int) == 43) = false := by rw [beq_eq_false_iff_ne]; omega
  have q2 : ((d : Int) == 45) = false := by rw [beq_eq_false_iff_ne]; omega
  clear hd g1 g2
  have hJl : k + 1 ≤ s.length := by omega
  have hfr : ∀ wx, (Instr.slice 9 (.string ⟨s.toArray⟩) (some (.int .i64 ((k : Int) + 1))) none none).run Tryz.prog wx = .ok (.string ⟨(s.drop (k + 1)).toArray⟩) wx := fun wx => by
    have := run_from s (k + 1) hJl wx
    rw [show (((k + 1 : Nat)) : Int) = ((k : Int) + 1) by omega] at this
    exact this
  have hD := fun wx => digitRun_any (s.drop (k + 1)) false wx (by rw [List.length_drop]; omega)
  rw [isX_fun, hds] at hD
  obtain ⟨t1, t2⟩ := tw_cut isD s (k + 1)
  rw [hds] at t1 t2
  have t3 := t2 hJl
  have hct : ∀ wx, (Instr.slice 9 (.string ⟨s.toArray⟩) (some (.int .i64 ((k : Int) + 1))) (some (.int .i64 (((k : Int) + 1) + (ds.length : Int)))) none).run Tryz.prog wx = .ok (.string ⟨ds.toArray⟩) wx := fun wx => by
    have := run_cut s (k + 1) (k + 1 + ds.length) (by omega) t3 wx
    rw [t1, show (((k + 1 : Nat)) : Int) = ((k : Int) + 1) by omega, show (((k + 1 + ds.length : Nat)) : Int) = ((k : Int) + 1) + (ds.length : Int) by omega] at this
    exact this
  have hsz : (ByteArray.mk s.toArray).size = s.length := sz_mk s
  have hres : (((k + 1 + ds.length : Nat)) : Int) = ((k : Int) + 1) + (ds.length : Int) := by omega
  rw [hres]
  have hk4 : k ≤ 4096 := by omega
  have hn4 : k + 1 + ds.length ≤ 4096 := by omega
  obtain ⟨n, hn⟩ : ∃ n, ds.length = n := ⟨_, rfl⟩
  obtain ⟨L, hL⟩ : ∃ L, s.length = L := ⟨_, rfl⟩
  rw [hn] at hD hct t3 hok hn4 ⊢
  rw [hL] at hsz hlen q0 hok t3
  have hn0 : decide ((0 : Int) < (n : Int)) = decide (0 < n) := by by_cases z : 0 < n <;> simp [z]
  have hL0 : ((((k : Int) + 1) + (n : Int)) == (L : Int)) = decide (k + 1 + n = L) := by
    by_cases z : k + 1 + n = L
    · rw [decide_eq_true z, beq_iff_eq]; omega
    · rw [decide_eq_false z, beq_eq_false_iff_ne]; omega
  have Hok : Hid ((decide (0 < n) && decide (k + 1 + n = L)) = ok) := hok
  generalize (s.drop (k + 1)) = sd at hfr hD
  clear hok hL hn hds t1 t2 t3 h hs hres
  go_enter Tryz.func135, Tryz.ntmps135
  go_wp2_with fail
  refine (hI _).mono ?_
  rintro e wz ⟨rfl, hz⟩
  rw [hz]
  clear hz
  go_wp2_with fail
  refine (hD _).mono ?_
  rintro e w2 ⟨rfl, p, rfl⟩
  by_cases z0 : 0 < n
  · have y0 : decide (0 < n) = true := decide_eq_true z0
    have Hok2 : Hid (decide (k + 1 + n = L) = ok) := by have := Hok.out; rw [y0, Bool.true_and] at this; exact this
    rw [Hok2.out] at hL0
    rw [y0] at hn0
    clear Hok z0
    go_wp2_with fail
    exact bodyPost_ret (results_sp rfl _ _ (w.heap.size + 1) _ _ _ _ _ _ rfl (Sp.threeN w _ _ _)) rfl ⟨rfl, Keep.threeN w _ _ _⟩
  · have y0 : decide (0 < n) = false := decide_eq_false z0
    have Hok2 : Hid (ok = false) := by have := Hok.out; rw [y0, Bool.false_and] at this; exact this.symm
    rw [y0] at hn0
    clear Hok z0
    go_wp2_with fail
    exact bodyPost_ret (results_sp rfl _ _ (w.heap.size + 1) _ _ _ _ _ _ rfl (Sp.threeN w _ _ _)) rfl ⟨by rw [Hok2.out]; rfl, Keep.threeN w _ _ _⟩
set_option maxRecDepth 100000 in
set_option maxHeartbeats 1000000 in
theorem cp_yes_false_p (ng : Bool) (wh pt : List UInt8) (s : List UInt8) (k : Nat) (w : World) (hs : s.length ≤ 4096) (h : k < s.length) (x : Nat) (hi : Lib.indexByte [101, 69] (s.getD k 0) = (x : Int)) (g : k + 1 < s.length) (g1 : (s.getD (k + 1) 0).toNat = 43) (ds : List UInt8) (hds : (s.drop (k + 2)).takeWhile isD = ds) (ok : Bool) (hok : (decide (0 < ds.length) && decide (k + 2 + ds.length = s.length)) = ok) :
    Calls Tryz.prog 135 #[.agg #[.bool ng, .bool false, .string ⟨wh.toArray⟩, .string ⟨pt.toArray⟩, .bool false, .string ⟨#[]⟩], .string ⟨s.toArray⟩, .int .i64 (k : Int)] w fun e w' => e = .returned (.tuple #[.agg #[.bool ng, .bool false, .string ⟨wh.toArray⟩, .string ⟨pt.toArray⟩, .bool false, .string ⟨ds.toArray⟩], .int .i64 ((k + 2 + ds.length : Nat) : Int), .bool ok]) ∧ Keep w w' := by
  have hlen : ((k : Int) == (s.length : Int)) = false := by rw [beq_eq_false_iff_ne]; omega
  have hix := fun wx => run_ix s k h wx
  have hI := fun wx => ix_any [101, 69] (s.getD k 0) wx
  rw [hi] at hI
  obtain ⟨c, hc⟩ : ∃ c, (s.getD k 0).toNat = c := ⟨_, rfl⟩
  rw [hc] at hI hix
  clear hc hi
  have q0 : decide ((k : Int) + 1 < (s.length : Int)) = true := decide_eq_true (by omega)
  have hix1 : ∀ wx, (Instr.index 9 (.string ⟨s.toArray⟩) (.int .i64 ((k : Int) + 1))).run Tryz.prog wx = .ok (.int .u8 43) wx := fun wx => by
    have := run_ix s (k + 1) g wx
    rw [g1] at this
    exact this
  clear g1
  have hJl : k + 2 ≤ s.length := by omega
  have hfr : ∀ wx, (Instr.slice 9 (.string ⟨s.toArray⟩) (some (.int .i64 ((k : Int) + 1 + 1))) none none).run Tryz.prog wx = .ok (.string ⟨(s.drop (k + 2)).toArray⟩) wx := fun wx => by
    have := run_from s (k + 2) hJl wx
    rw [show (((k + 2 : Nat)) : Int) = ((k : Int) + 1 + 1) by omega] at this
    exact this
  have hD := fun wx => digitRun_any (s.drop (k + 2)) false wx (by rw [List.length_drop]; omega)
  rw [isX_fun, hds] at hD
  obtain ⟨t1, t2⟩ := tw_cut isD s (k + 2)
  rw [hds] at t1 t2
  have t3 := t2 hJl
  have hct : ∀ wx, (Instr.slice 9 (.string ⟨s.toArray⟩) (some (.int .i64 ((k : Int) + 1 + 1))) (some (.int .i64 (((k : Int) + 1 + 1) + (ds.length : Int)))) none).run Tryz.prog wx = .ok (.string ⟨ds.toArray⟩) wx := fun wx => by
    have := run_cut s (k + 2) (k + 2 + ds.length) (by omega) t3 wx
    rw [t1, show (((k + 2 : Nat)) : Int) = ((k : Int) + 1 + 1) by omega, show (((k + 2 + ds.length : Nat)) : Int) = ((k : Int) + 1 + 1) + (ds.length : Int) by omega] at this
    exact this
  have hsz : (ByteArray.mk s.toArray).size = s.length := sz_mk s
  have hres : (((k + 2 + ds.length : Nat)) : Int) = ((k : Int) + 1 + 1) + (ds.length : Int) := by omega
  rw [hres]
  have hk4 : k ≤ 4096 := by omega
  have hn4 : k + 2 + ds.length ≤ 4096 := by omega
  obtain ⟨n, hn⟩ : ∃ n, ds.length = n := ⟨_, rfl⟩
  obtain ⟨L, hL⟩ : ∃ L, s.length = L := ⟨_, rfl⟩
  rw [hn] at hD hct t3 hok hn4 ⊢
  rw [hL] at hsz hlen q0 hok t3
  have hn0 : decide ((0 : Int) < (n : Int)) = decide (0 < n) := by by_cases z : 0 < n <;> simp [z]
  have hL0 : ((((k : Int) + 1 + 1) + (n : Int)) == (L : Int)) = decide (k + 2 + n = L) := by
    by_cases z : k + 2 + n = L
    · rw [decide_eq_true z, beq_iff_eq]; omega
    · rw [decide_eq_false z, beq_eq_false_iff_ne]; omega
  have Hok : Hid ((decide (0 < n) && decide (k + 2 + n = L)) = ok) := hok
  generalize (s.drop (k + 2)) = sd at hfr hD
  clear hok hL hn hds t1 t2 t3 h hs hres
  go_enter Tryz.func135, Tryz.ntmps135
  go_wp2_with fail
  refine (hI _).mono ?_
  rintro e wz ⟨rfl, hz⟩
  rw [hz]
  clear hz
  go_wp2_with fail
  refine (hD _).mono ?_
  rintro e w2 ⟨rfl, p, rfl⟩
  by_cases z0 : 0 < n
  · have y0 : decide (0 < n) = true := decide_eq_true z0
    have Hok2 : Hid (decide (k + 2 + n = L) = ok) := by have := Hok.out; rw [y0, Bool.true_and] at this; exact this
    rw [Hok2.out] at hL0
    rw [y0] at hn0
    clear Hok z0
    go_wp2_with fail
    exact bodyPost_ret (results_sp rfl _ _ (w.heap.size + 1) _ _ _ _ _ _ rfl (Sp.threeN w _ _ _)) rfl ⟨rfl, Keep.threeN w _ _ _⟩
  · have y0 : decide (0 < n) = false := decide_eq_false z0
    have Hok2 : Hid (ok = false) := by have := Hok.out; rw [y0, Bool.false_and] at this; exact this.symm
    rw [y0] at hn0
    clear Hok z0
    go_wp2_with fail
    exact bodyPost_ret (results_sp rfl _ _ (w.heap.size + 1) _ _ _ _ _ _ rfl (Sp.threeN w _ _ _)) rfl ⟨by rw [Hok2.out]; rfl, Keep.threeN w _ _ _⟩
set_option maxRecDepth 100000 in
set_option maxHeartbeats 1000000 in
theorem cp_yes_false_m (ng : Bool) (wh pt : List UInt8) (s : List UInt8) (k : Nat) (w : World) (hs : s.length ≤ 4096) (h : k < s.length) (x : Nat) (hi : Lib.indexByte [101, 69] (s.getD k 0) = (x : Int)) (g : k + 1 < s.length) (g1 : (s.getD (k + 1) 0).toNat = 45) (ds : List UInt8) (hds : (s.drop (k + 2)).takeWhile isD = ds) (ok : Bool) (hok : (decide (0 < ds.length) && decide (k + 2 + ds.length = s.length)) = ok) :
    Calls Tryz.prog 135 #[.agg #[.bool ng, .bool false, .string ⟨wh.toArray⟩, .string ⟨pt.toArray⟩, .bool false, .string ⟨#[]⟩], .string ⟨s.toArray⟩, .int .i64 (k : Int)] w fun e w' => e = .returned (.tuple #[.agg #[.bool ng, .bool false, .string ⟨wh.toArray⟩, .string ⟨pt.toArray⟩, .bool true, .string ⟨ds.toArray⟩], .int .i64 ((k + 2 + ds.length : Nat) : Int), .bool ok]) ∧ Keep w w' := by
  have hlen : ((k : Int) == (s.length : Int)) = false := by rw [beq_eq_false_iff_ne]; omega
  have hix := fun wx => run_ix s k h wx
  have hI := fun wx => ix_any [101, 69] (s.getD k 0) wx
  rw [hi] at hI
  obtain ⟨c, hc⟩ : ∃ c, (s.getD k 0).toNat = c := ⟨_, rfl⟩
  rw [hc] at hI hix
  clear hc hi
  have q0 : decide ((k : Int) + 1 < (s.length : Int)) = true := decide_eq_true (by omega)
  have hix1 : ∀ wx, (Instr.index 9 (.string ⟨s.toArray⟩) (.int .i64 ((k : Int) + 1))).run Tryz.prog wx = .ok (.int .u8 45) wx := fun wx => by
    have := run_ix s (k + 1) g wx
    rw [g1] at this
    exact this
  clear g1
  have hJl : k + 2 ≤ s.length := by omega
  have hfr : ∀ wx, (Instr.slice 9 (.string ⟨s.toArray⟩) (some (.int .i64 ((k : Int) + 1 + 1))) none none).run Tryz.prog wx = .ok (.string ⟨(s.drop (k + 2)).toArray⟩) wx := fun wx => by
    have := run_from s (k + 2) hJl wx
    rw [show (((k + 2 : Nat)) : Int) = ((k : Int) + 1 + 1) by omega] at this
    exact this
  have hD := fun wx => digitRun_any (s.drop (k + 2)) false wx (by rw [List.length_drop]; omega)
  rw [isX_fun, hds] at hD
  obtain ⟨t1, t2⟩ := tw_cut isD s (k + 2)
  rw [hds] at t1 t2
  have t3 := t2 hJl
  have hct : ∀ wx, (Instr.slice 9 (.string ⟨s.toArray⟩) (some (.int .i64 ((k : Int) + 1 + 1))) (some (.int .i64 (((k : Int) + 1 + 1) + (ds.length : Int)))) none).run Tryz.prog wx = .ok (.string ⟨ds.toArray⟩) wx := fun wx => by
    have := run_cut s (k + 2) (k + 2 + ds.length) (by omega) t3 wx
    rw [t1, show (((k + 2 : Nat)) : Int) = ((k : Int) + 1 + 1) by omega, show (((k + 2 + ds.length : Nat)) : Int) = ((k : Int) + 1 + 1) + (ds.length : Int) by omega] at this
    exact this
  have hsz : (ByteArray.mk s.toArray).size = s.length := sz_mk s
  have hres : (((k + 2 + ds.length : Nat)) : Int) = ((k : Int) + 1 + 1) + (ds.length : Int) := by omega
  rw [hres]
  have hk4 : k ≤ 4096 := by omega
  have hn4 : k + 2 + ds.length ≤ 4096 := by omega
  obtain ⟨n, hn⟩ : ∃ n, ds.length = n := ⟨_, rfl⟩
  obtain ⟨L, hL⟩ : ∃ L, s.length = L := ⟨_, rfl⟩
  rw [hn] at hD hct t3 hok hn4 ⊢
  rw [hL] at hsz hlen q0 hok t3
  have hn0 : decide ((0 : Int) < (n : Int)) = decide (0 < n) := by by_cases z : 0 < n <;> simp [z]
  have hL0 : ((((k : Int) + 1 + 1) + (n : Int)) == (L : Int)) = decide (k + 2 + n = L) := by
    by_cases z : k + 2 + n = L
    · rw [decide_eq_true z, beq_iff_eq]; omega
    · rw [decide_eq_false z, beq_eq_false_iff_ne]; omega
  have Hok : Hid ((decide (0 < n) && decide (k + 2 + n = L)) = ok) := hok
  generalize (s.drop (k + 2)) = sd at hfr hD
  clear hok hL hn hds t1 t2 t3 h hs hres
  go_enter Tryz.func135, Tryz.ntmps135
  go_wp2_with fail
  refine (hI _).mono ?_
  rintro e wz ⟨rfl, hz⟩
  rw [hz]
  clear hz
  go_wp2_with fail
  refine (hD _).mono ?_
  rintro e w2 ⟨rfl, p, rfl⟩
  by_cases z0 : 0 < n
  · have y0 : decide (0 < n) = true := decide_eq_true z0
    have Hok2 : Hid (decide (k + 2 + n = L) = ok) := by have := Hok.out; rw [y0, Bool.true_and] at this; exact this
    rw [Hok2.out] at hL0
    rw [y0] at hn0
    clear Hok z0
    go_wp2_with fail
    exact bodyPost_ret (results_sp rfl _ _ (w.heap.size + 1) _ _ _ _ _ _ rfl (Sp.threeN w _ _ _)) rfl ⟨rfl, Keep.threeN w _ _ _⟩
  · have y0 : decide (0 < n) = false := decide_eq_false z0
    have Hok2 : Hid (ok = false) := by have := Hok.out; rw [y0, Bool.false_and] at this; exact this.symm
    rw [y0] at hn0
    clear Hok z0
    go_wp2_with fail
    exact bodyPost_ret (results_sp rfl _ _ (w.heap.size + 1) _ _ _ _ _ _ rfl (Sp.threeN w _ _ _)) rfl ⟨by rw [Hok2.out]; rfl, Keep.threeN w _ _ _⟩
set_option maxRecDepth 100000 in
set_option maxHeartbeats 1000000 in
theorem cp_yes_true_e (ng : Bool) (wh pt : List UInt8) (s : List UInt8) (k : Nat) (w : World) (hs : s.length ≤ 4096) (h : k < s.length) (x : Nat) (hi : Lib.indexByte [112] (s.getD k 0) = (x : Int)) (g : k + 1 = s.length) (ds : List UInt8) (hds : (s.drop (k + 1)).takeWhile isD = ds) (ok : Bool) (hok : (decide (0 < ds.length) && decide (k + 1 + ds.length = s.length)) = ok) :
    Calls Tryz.prog 135 #[.agg #[.bool ng, .bool true, .string ⟨wh.toArray⟩, .string ⟨pt.toArray⟩, .bool false, .string ⟨#[]⟩], .string ⟨s.toArray⟩, .int .i64 (k : Int)] w fun e w' => e = .returned (.tuple #[.agg #[.bool ng, .bool true, .string ⟨wh.toArray⟩, .string ⟨pt.toArray⟩, .bool false, .string ⟨ds.toArray⟩], .int .i64 ((k + 1 + ds.length : Nat) : Int), .bool ok]) ∧ Keep w w' := by
  have hlen : ((k : Int) == (s.length : Int)) = false := by rw [beq_eq_false_iff_ne]; omega
  have hix := fun wx => run_ix s k h wx
  have hI := fun wx => ix_any [112] (s.getD k 0) wx
  rw [hi] at hI
  obtain ⟨c, hc⟩ : ∃ c, (s.getD k 0).toNat = c := ⟨_, rfl⟩
  rw [hc] at hI hix
  clear hc hi
  have q0 : decide ((k : Int) + 1 < (s.length : Int)) = false := decide_eq_false (by omega)
  have hJl : k + 1 ≤ s.length := by omega
  have hfr : ∀ wx, (Instr.slice 9 (.string ⟨s.toArray⟩) (some (.int .i64 ((k : Int) + 1))) none none).run Tryz.prog wx = .ok (.string ⟨(s.drop (k + 1)).toArray⟩) wx := fun wx => by
    have := run_from s (k + 1) hJl wx
    rw [show (((k + 1 : Nat)) : Int) = ((k : Int) + 1) by omega] at this
    exact this
  have hD := fun wx => digitRun_any (s.drop (k + 1)) false wx (by rw [List.length_drop]; omega)
  rw [isX_fun, hds] at hD
  obtain ⟨t1, t2⟩ := tw_cut isD s (k + 1)
  rw [hds] at t1 t2
  have t3 := t2 hJl
  have hct : ∀ wx, (Instr.slice 9 (.string ⟨s.toArray⟩) (some (.int .i64 ((k : Int) + 1))) (some (.int .i64 (((k : Int) + 1) + (ds.length : Int)))) none).run Tryz.prog wx = .ok (.string ⟨ds.toArray⟩) wx := fun wx => by
    have := run_cut s (k + 1) (k + 1 + ds.length) (by omega) t3 wx
    rw [t1, show (((k + 1 : Nat)) : Int) = ((k : Int) + 1) by omega, show (((k + 1 + ds.length : Nat)) : Int) = ((k : Int) + 1) + (ds.length : Int) by omega] at this
    exact this
  have hsz : (ByteArray.mk s.toArray).size = s.length := sz_mk s
  have hres : (((k + 1 + ds.length : Nat)) : Int) = ((k : Int) + 1) + (ds.length : Int) := by omega
  rw [hres]
  have hk4 : k ≤ 4096 := by omega
  have hn4 : k + 1 + ds.length ≤ 4096 := by omega
  obtain ⟨n, hn⟩ : ∃ n, ds.length = n := ⟨_, rfl⟩
  obtain ⟨L, hL⟩ : ∃ L, s.length = L := ⟨_, rfl⟩
  rw [hn] at hD hct t3 hok hn4 ⊢
  rw [hL] at hsz hlen q0 hok t3
  have hn0 : decide ((0 : Int) < (n : Int)) = decide (0 < n) := by by_cases z : 0 < n <;> simp [z]
  have hL0 : ((((k : Int) + 1) + (n : Int)) == (L : Int)) = decide (k + 1 + n = L) := by
    by_cases z : k + 1 + n = L
    · rw [decide_eq_true z, beq_iff_eq]; omega
    · rw [decide_eq_false z, beq_eq_false_iff_ne]; omega
  have Hok : Hid ((decide (0 < n) && decide (k + 1 + n = L)) = ok) := hok
  generalize (s.drop (k + 1)) = sd at hfr hD
  clear hok hL hn hds t1 t2 t3 h hs hres
  go_enter Tryz.func135, Tryz.ntmps135
  go_wp2_with fail
  refine (hI _).mono ?_
  rintro e wz ⟨rfl, hz⟩
  rw [hz]
  clear hz
  go_wp2_with fail
  refine (hD _).mono ?_
  rintro e w2 ⟨rfl, p, rfl⟩
  by_cases z0 : 0 < n
  · have y0 : decide (0 < n) = true := decide_eq_true z0
    have Hok2 : Hid (decide (k + 1 + n = L) = ok) := by have := Hok.out; rw [y0, Bool.true_and] at this; exact this
    rw [Hok2.out] at hL0
    rw [y0] at hn0
    clear Hok z0
    go_wp2_with fail
    exact bodyPost_ret (results_sp rfl _ _ (w.heap.size + 1) _ _ _ _ _ _ rfl (Sp.threeN w _ _ _)) rfl ⟨rfl, Keep.threeN w _ _ _⟩
  · have y0 : decide (0 < n) = false := decide_eq_false z0
    have Hok2 : Hid (ok = false) := by have := Hok.out; rw [y0, Bool.false_and] at this; exact this.symm
    rw [y0] at hn0
    clear Hok z0
    go_wp2_with fail
    exact bodyPost_ret (results_sp rfl _ _ (w.heap.size + 1) _ _ _ _ _ _ rfl (Sp.threeN w _ _ _)) rfl ⟨by rw [Hok2.out]; rfl, Keep.threeN w _ _ _⟩
set_option maxRecDepth 100000 in
set_option maxHeartbeats 1000000 in
theorem cp_yes_true_n (ng : Bool) (wh pt : List UInt8) (s : List UInt8) (k : Nat) (w : World) (hs : s.length ≤ 4096) (h : k < s.length) (x : Nat) (hi : Lib.indexByte [112] (s.getD k 0) = (x : Int)) (g : k + 1 < s.length) (g1 : (s.getD (k + 1) 0).toNat ≠ 43) (g2 : (s.getD (k + 1) 0).toNat ≠ 45) (ds : List UInt8) (hds : (s.drop (k + 1)).takeWhile isD = ds) (ok : Bool) (hok : (decide (0 < ds.length) && decide (k + 1 + ds.length = s.length)) = ok) :
    Calls Tryz.prog 135 #[.agg #[.bool ng, .bool true, .string ⟨wh.toArray⟩, .string ⟨pt.toArray⟩, .bool false, .string ⟨#[]⟩], .string ⟨s.toArray⟩, .int .i64 (k : Int)] w fun e w' => e = .returned (.tuple #[.agg #[.bool ng, .bool true, .string ⟨wh.toArray⟩, .string ⟨pt.toArray⟩, .bool false, .string ⟨ds.toArray⟩], .int .i64 ((k + 1 + ds.length : Nat) : Int), .bool ok]) ∧ Keep w w' := by
  have hlen : ((k : Int) == (s.length : Int)) = false := by rw [beq_eq_false_iff_ne]; omega
  have hix := fun wx => run_ix s k h wx
  have hI := fun wx => ix_any [112] (s.getD k 0) wx
  rw [hi] at hI
  obtain ⟨c, hc⟩ : ∃ c, (s.getD k 0).toNat = c := ⟨_, rfl⟩
  rw [hc] at hI hix
  clear hc hi
  have q0 : decide ((k : Int) + 1 < (s.length : Int)) = true := decide_eq_true (by omega)
  have hix1 : ∀ wx, (Instr.index 9 (.string ⟨s.toArray⟩) (.int .i64 ((k : Int) + 1))).run Tryz.prog wx = .ok (.int .u8 ((s.getD (k + 1) 0).toNat : Nat)) wx := fun wx => run_ix s (k + 1) g wx
  obtain ⟨d, hd⟩ : ∃ d, (s.getD (k + 1) 0).toNat = d := ⟨_, rfl⟩
  rw [hd] at hix1 g1 g2
  have q1 : ((d : Int) == 43) = false := by rw [beq_eq_false_iff_ne]; omega
  have q2 : ((d : Int) == 45) = false := by rw [beq_eq_false_iff_ne]; omega
  clear hd g1 g2
  have hJl : k + 1 ≤ s.length := by omega
  have hfr : ∀ wx, (Instr.slice 9 (.string ⟨s.toArray⟩) (some (.int .i64 ((k : Int) + 1))) none none).run Tryz.prog wx = .ok (.string ⟨(s.drop (k + 1)).toArray⟩) wx := fun wx => by
    have := run_from s (k + 1) hJl wx
    rw [show (((k + 1 : Nat)) : Int) = ((k : Int) + 1) by omega] at this
    exact this
  have hD := fun wx => digitRun_any (s.drop (k + 1)) false wx (by rw [List.length_drop]; omega)
  rw [isX_fun, hds] at hD
  obtain ⟨t1, t2⟩ := tw_cut isD s (k + 1)
  rw [hds] at t1 t2
  have t3 := t2 hJl
  have hct : ∀ wx, (Instr.slice 9 (.string ⟨s.toArray⟩) (some (.int .i64 ((k : Int) + 1))) (some (.int .i64 (((k : Int) + 1) + (ds.length : Int)))) none).run Tryz.prog wx = .ok (.string ⟨ds.toArray⟩) wx := fun wx => by
    have := run_cut s (k + 1) (k + 1 + ds.length) (by omega) t3 wx
    rw [t1, show (((k + 1 : Nat)) : Int) = ((k : Int) + 1) by omega, show (((k + 1 + ds.length : Nat)) : Int) = ((k : Int) + 1) + (ds.length : Int) by omega] at this
    exact this
  have hsz : (ByteArray.mk s.toArray).size = s.length := sz_mk s
  have hres : (((k + 1 + ds.length : Nat)) : Int) = ((k : Int) + 1) + (ds.length : Int) := by omega
  rw [hres]
  have hk4 : k ≤ 4096 := by omega
  have hn4 : k + 1 + ds.length ≤ 4096 := by omega
  obtain ⟨n, hn⟩ : ∃ n, ds.length = n := ⟨_, rfl⟩
  obtain ⟨L, hL⟩ : ∃ L, s.length = L := ⟨_, rfl⟩
  rw [hn] at hD hct t3 hok hn4 ⊢
  rw [hL] at hsz hlen q0 hok t3
  have hn0 : decide ((0 : Int) < (n : Int)) = decide (0 < n) := by by_cases z : 0 < n <;> simp [z]
  have hL0 : ((((k : Int) + 1) + (n : Int)) == (L : Int)) = decide (k + 1 + n = L) := by
    by_cases z : k + 1 + n = L
    · rw [decide_eq_true z, beq_iff_eq]; omega
    · rw [decide_eq_false z, beq_eq_false_iff_ne]; omega
  have Hok : Hid ((decide (0 < n) && decide (k + 1 + n = L)) = ok) := hok
  generalize (s.drop (k + 1)) = sd at hfr hD
  clear hok hL hn hds t1 t2 t3 h hs hres
  go_enter Tryz.func135, Tryz.ntmps135
  go_wp2_with fail
  refine (hI _).mono ?_
  rintro e wz ⟨rfl, hz⟩
  rw [hz]
  clear hz
  go_wp2_with fail
  refine (hD _).mono ?_
  rintro e w2 ⟨rfl, p, rfl⟩
  by_cases z0 : 0 < n
  · have y0 : decide (0 < n) = true := decide_eq_true z0
    have Hok2 : Hid (decide (k + 1 + n = L) = ok) := by have := Hok.out; rw [y0, Bool.true_and] at this; exact this
    rw [Hok2.out] at hL0
    rw [y0] at hn0
    clear Hok z0
    go_wp2_with fail
    exact bodyPost_ret (results_sp rfl _ _ (w.heap.size + 1) _ _ _ _ _ _ rfl (Sp.threeN w _ _ _)) rfl ⟨rfl, Keep.threeN w _ _ _⟩
  · have y0 : decide (0 < n) = false := decide_eq_false z0
    have Hok2 : Hid (ok = false) := by have := Hok.out; rw [y0, Bool.false_and] at this; exact this.symm
    rw [y0] at hn0
    clear Hok z0
    go_wp2_with fail
    exact bodyPost_ret (results_sp rfl _ _ (w.heap.size + 1) _ _ _ _ _ _ rfl (Sp.threeN w _ _ _)) rfl ⟨by rw [Hok2.out]; rfl, Keep.threeN w _ _ _⟩
set_option maxRecDepth 100000 in
set_option maxHeartbeats 1000000 in
theorem cp_yes_true_p (ng : Bool) (wh pt : List UInt8) (s : List UInt8) (k : Nat) (w : World) (hs : s.length ≤ 4096) (h : k < s.length) (x : Nat) (hi : Lib.indexByte [112] (s.getD k 0) = (x : Int)) (g : k + 1 < s.length) (g1 : (s.getD (k + 1) 0).toNat = 43) (ds : List UInt8) (hds : (s.drop (k + 2)).takeWhile isD = ds) (ok : Bool) (hok : (decide (0 < ds.length) && decide (k + 2 + ds.length = s.length)) = ok) :
    Calls Tryz.prog 135 #[.agg #[.bool ng, .bool true, .string ⟨wh.toArray⟩, .string ⟨pt.toArray⟩, .bool false, .string ⟨#[]⟩], .string ⟨s.toArray⟩, .int .i64 (k : Int)] w fun e w' => e = .returned (.tuple #[.agg #[.bool ng, .bool true, .string ⟨wh.toArray⟩, .string ⟨pt.toArray⟩, .bool false, .string ⟨ds.toArray⟩], .int .i64 ((k + 2 + ds.length : Nat) : Int), .bool ok]) ∧ Keep w w' := by
  have hlen : ((k : Int) == (s.length : Int)) = false := by rw [beq_eq_false_iff_ne]; omega
  have hix := fun wx => run_ix s k h wx
  have hI := fun wx => ix_any [112] (s.getD k 0) wx
  rw [hi] at hI
  obtain ⟨c, hc⟩ : ∃ c, (s.getD k 0).toNat = c := ⟨_, rfl⟩
  rw [hc] at hI hix
  clear hc hi
  have q0 : decide ((k : Int) + 1 < (s.length : Int)) = true := decide_eq_true (by omega)
  have hix1 : ∀ wx, (Instr.index 9 (.string ⟨s.toArray⟩) (.int .i64 ((k : Int) + 1))).run Tryz.prog wx = .ok (.int .u8 43) wx := fun wx => by
    have := run_ix s (k + 1) g wx
    rw [g1] at this
    exact this
  clear g1
  have hJl : k + 2 ≤ s.length := by omega
  have hfr : ∀ wx, (Instr.slice 9 (.string ⟨s.toArray⟩) (some (.int .i64 ((k : Int) + 1 + 1))) none none).run Tryz.prog wx = .ok (.string ⟨(s.drop (k + 2)).toArray⟩) wx := fun wx => by
    have := run_from s (k + 2) hJl wx
    rw [show (((k + 2 : Nat)) : Int) = ((k : Int) + 1 + 1) by omega] at this
    exact this
  have hD := fun wx => digitRun_any (s.drop (k + 2)) false wx (by rw [List.length_drop]; omega)
  rw [isX_fun, hds] at hD
  obtain ⟨t1, t2⟩ := tw_cut isD s (k + 2)
  rw [hds] at t1 t2
  have t3 := t2 hJl
  have hct : ∀ wx, (Instr.slice 9 (.string ⟨s.toArray⟩) (some (.int .i64 ((k : Int) + 1 + 1))) (some (.int .i64 (((k : Int) + 1 + 1) + (ds.length : Int)))) none).run Tryz.prog wx = .ok (.string ⟨ds.toArray⟩) wx := fun wx => by
    have := run_cut s (k + 2) (k + 2 + ds.length) (by omega) t3 wx
    rw [t1, show (((k + 2 : Nat)) : Int) = ((k : Int) + 1 + 1) by omega, show (((k + 2 + ds.length : Nat)) : Int) = ((k : Int) + 1 + 1) + (ds.length : Int) by omega] at this
    exact this
  have hsz : (ByteArray.mk s.toArray).size = s.length := sz_mk s
  have hres : (((k + 2 + ds.length : Nat)) : Int) = ((k : Int) + 1 + 1) + (ds.length : Int) := by omega
  rw [hres]
  have hk4 : k ≤ 4096 := by omega
  have hn4 : k + 2 + ds.length ≤ 4096 := by omega
  obtain ⟨n, hn⟩ : ∃ n, ds.length = n := ⟨_, rfl⟩
  obtain ⟨L, hL⟩ : ∃ L, s.length = L := ⟨_, rfl⟩
  rw [hn] at hD hct t3 hok hn4 ⊢
  rw [hL] at hsz hlen q0 hok t3
  have hn0 : decide ((0 : Int) < (n : Int)) = decide (0 < n) := by by_cases z : 0 < n <;> simp [z]
  have hL0 : ((((k : Int) + 1 + 1) + (n : Int)) == (L : Int)) = decide (k + 2 + n = L) := by
    by_cases z : k + 2 + n = L
    · rw [decide_eq_true z, beq_iff_eq]; omega
    · rw [decide_eq_false z, beq_eq_false_iff_ne]; omega
  have Hok : Hid ((decide (0 < n) && decide (k + 2 + n = L)) = ok) := hok
  generalize (s.drop (k + 2)) = sd at hfr hD
  clear hok hL hn hds t1 t2 t3 h hs hres
  go_enter Tryz.func135, Tryz.ntmps135
  go_wp2_with fail
  refine (hI _).mono ?_
  rintro e wz ⟨rfl, hz⟩
  rw [hz]
  clear hz
  go_wp2_with fail
  refine (hD _).mono ?_
  rintro e w2 ⟨rfl, p, rfl⟩
  by_cases z0 : 0 < n
  · have y0 : decide (0 < n) = true := decide_eq_true z0
    have Hok2 : Hid (decide (k + 2 + n = L) = ok) := by have := Hok.out; rw [y0, Bool.true_and] at this; exact this
    rw [Hok2.out] at hL0
    rw [y0] at hn0
    clear Hok z0
    go_wp2_with fail
    exact bodyPost_ret (results_sp rfl _ _ (w.heap.size + 1) _ _ _ _ _ _ rfl (Sp.threeN w _ _ _)) rfl ⟨rfl, Keep.threeN w _ _ _⟩
  · have y0 : decide (0 < n) = false := decide_eq_false z0
    have Hok2 : Hid (ok = false) := by have := Hok.out; rw [y0, Bool.false_and] at this; exact this.symm
    rw [y0] at hn0
    clear Hok z0
    go_wp2_with fail
    exact bodyPost_ret (results_sp rfl _ _ (w.heap.size + 1) _ _ _ _ _ _ rfl (Sp.threeN w _ _ _)) rfl ⟨by rw [Hok2.out]; rfl, Keep.threeN w _ _ _⟩
set_option maxRecDepth 100000 in
set_option maxHeartbeats 1000000 in
theorem cp_yes_true_m (ng : Bool) (wh pt : List UInt8) (s : List UInt8) (k : Nat) (w : World) (hs : s.length ≤ 4096) (h : k < s.length) (x : Nat) (hi : Lib.indexByte [112] (s.getD k 0) = (x : Int)) (g : k + 1 < s.length) (g1 : (s.getD (k + 1) 0).toNat = 45) (ds : List UInt8) (hds : (s.drop (k + 2)).takeWhile isD = ds) (ok : Bool) (hok : (decide (0 < ds.length) && decide (k + 2 + ds.length = s.length)) = ok) :
    Calls Tryz.prog 135 #[.agg #[.bool ng, .bool true, .string ⟨wh.toArray⟩, .string ⟨pt.toArray⟩, .bool false, .string ⟨#[]⟩], .string ⟨s.toArray⟩, .int .i64 (k : Int)] w fun e w' => e = .returned (.tuple #[.agg #[.bool ng, .bool true, .string ⟨wh.toArray⟩, .string ⟨pt.toArray⟩, .bool true, .string ⟨ds.toArray⟩], .int .i64 ((k + 2 + ds.length : Nat) : Int), .bool ok]) ∧ Keep w w' := by
  have hlen : ((k : Int) == (s.length : Int)) = false := by rw [beq_eq_false_iff_ne]; omega
  have hix := fun wx => run_ix s k h wx
  have hI := fun wx => ix_any [112] (s.getD k 0) wx
  rw [hi] at hI
  obtain ⟨c, hc⟩ : ∃ c, (s.getD k 0).toNat = c := ⟨_, rfl⟩
  rw [hc] at hI hix
  clear hc hi
  have q0 : decide ((k : Int) + 1 < (s.length : Int)) = true := decide_eq_true (by omega)
  have hix1 : ∀ wx, (Instr.index 9 (.string ⟨s.toArray⟩) (.int .i64 ((k : Int) + 1))).run Tryz.prog wx = .ok (.int .u8 45) wx := fun wx => by
    have := run_ix s (k + 1) g wx
    rw [g1] at this
    exact this
  clear g1
  have hJl : k + 2 ≤ s.length := by omega
  have hfr : ∀ wx, (Instr.slice 9 (.string ⟨s.toArray⟩) (some (.int .i64 ((k : Int) + 1 + 1))) none none).run Tryz.prog wx = .ok (.string ⟨(s.drop (k + 2)).toArray⟩) wx := fun wx => by
    have := run_from s (k + 2) hJl wx
    rw [show (((k + 2 : Nat)) : Int) = ((k : Int) + 1 + 1) by omega] at this
    exact this
  have hD := fun wx => digitRun_any (s.drop (k + 2)) false wx (by rw [List.length_drop]; omega)
  rw [isX_fun, hds] at hD
  obtain ⟨t1, t2⟩ := tw_cut isD s (k + 2)
  rw [hds] at t1 t2
  have t3 := t2 hJl
  have hct : ∀ wx, (Instr.slice 9 (.string ⟨s.toArray⟩) (some (.int .i64 ((k : Int) + 1 + 1))) (some (.int .i64 (((k : Int) + 1 + 1) + (ds.length : Int)))) none).run Tryz.prog wx = .ok (.string ⟨ds.toArray⟩) wx := fun wx => by
    have := run_cut s (k + 2) (k + 2 + ds.length) (by omega) t3 wx
    rw [t1, show (((k + 2 : Nat)) : Int) = ((k : Int) + 1 + 1) by omega, show (((k + 2 + ds.length : Nat)) : Int) = ((k : Int) + 1 + 1) + (ds.length : Int) by omega] at this
    exact this
  have hsz : (ByteArray.mk s.toArray).size = s.length := sz_mk s
  have hres : (((k + 2 + ds.length : Nat)) : Int) = ((k : Int) + 1 + 1) + (ds.length : Int) := by omega
  rw [hres]
  have hk4 : k ≤ 4096 := by omega
  have hn4 : k + 2 + ds.length ≤ 4096 := by omega
  obtain ⟨n, hn⟩ : ∃ n, ds.length = n := ⟨_, rfl⟩
  obtain ⟨L, hL⟩ : ∃ L, s.length = L := ⟨_, rfl⟩
  rw [hn] at hD hct t3 hok hn4 ⊢
  rw [hL] at hsz hlen q0 hok t3
  have hn0 : decide ((0 : Int) < (n : Int)) = decide (0 < n) := by by_cases z : 0 < n <;> simp [z]
  have hL0 : ((((k : Int) + 1 + 1) + (n : Int)) == (L : Int)) = decide (k + 2 + n = L) := by
    by_cases z : k + 2 + n = L
    · rw [decide_eq_true z, beq_iff_eq]; omega
    · rw [decide_eq_false z, beq_eq_false_iff_ne]; omega
  have Hok : Hid ((decide (0 < n) && decide (k + 2 + n = L)) = ok) := hok
  generalize (s.drop (k + 2)) = sd at hfr hD
  clear hok hL hn hds t1 t2 t3 h hs hres
  go_enter Tryz.func135, Tryz.ntmps135
  go_wp2_with fail
  refine (hI _).mono ?_
  rintro e wz ⟨rfl, hz⟩
  rw [hz]
  clear hz
  go_wp2_with fail
  refine (hD _).mono ?_
  rintro e w2 ⟨rfl, p, rfl⟩
  by_cases z0 : 0 < n
  · have y0 : decide (0 < n) = true := decide_eq_true z0
    have Hok2 : Hid (decide (k + 2 + n = L) = ok) := by have := Hok.out; rw [y0, Bool.true_and] at this; exact this
    rw [Hok2.out] at hL0
    rw [y0] at hn0
    clear Hok z0
    go_wp2_with fail
    exact bodyPost_ret (results_sp rfl _ _ (w.heap.size + 1) _ _ _ _ _ _ rfl (Sp.threeN w _ _ _)) rfl ⟨rfl, Keep.threeN w _ _ _⟩
  · have y0 : decide (0 < n) = false := decide_eq_false z0
    have Hok2 : Hid (ok = false) := by have := Hok.out; rw [y0, Bool.false_and] at this; exact this.symm
    rw [y0] at hn0
    clear Hok z0
    go_wp2_with fail
    exact bodyPost_ret (results_sp rfl _ _ (w.heap.size + 1) _ _ _ _ _ _ rfl (Sp.threeN w _ _ _)) rfl ⟨by rw [Hok2.out]; rfl, Keep.threeN w _ _ _⟩
end Go.Proofs.YtpdjpjkieafnbaaGreatDoor.Li
