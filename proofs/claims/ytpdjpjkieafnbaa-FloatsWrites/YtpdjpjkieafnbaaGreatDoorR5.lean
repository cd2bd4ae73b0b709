import Derived.Test.YtpdjpjkieafnbaaGreatDoorR4
set_option linter.unusedVariables false
set_option linter.unusedSimpArgs false
namespace Go.Proofs.YtpdjpjkieafnbaaGreatDoor.Li
open Go.RowKit Lb
theorem Keep.two (w : World) (a b : Obj) : Keep w (((w.alloc a).alloc b).drew) := (((Keep.refl w).alloc a).alloc b).drew
theorem Sp.two (w : World) (a : Obj) (v : Array Value) : Sp (((w.alloc a).alloc (.cells v 129)).drew) (w.heap.size + 1) v := by
  have := Sp.new (w.alloc a) v
  rw [show (w.alloc a).heap.size = w.heap.size + 1 by simp] at this
  exact this
theorem Keep.threeN (w : World) (a b c : Obj) : Keep w ((((w.alloc a).alloc b).alloc c)) := ((((Keep.refl w).alloc a).alloc b).alloc c)
theorem Sp.threeN (w : World) (a c : Obj) (v : Array Value) : Sp ((((w.alloc a).alloc (.cells v 129)).alloc c)) (w.heap.size + 1) v := by
  have := Sp.new (w.alloc a) v
  rw [show (w.alloc a).heap.size = w.heap.size + 1 by simp] at this
  exact (this.keep ((Keep.refl _).alloc c))
theorem Keep.three (w : World) (a b c : Obj) : Keep w ((((w.alloc a).alloc b).alloc c).drew) := ((((Keep.refl w).alloc a).alloc b).alloc c).drew
theorem Sp.three (w : World) (a c : Obj) (v : Array Value) : Sp ((((w.alloc a).alloc (.cells v 129)).alloc c).drew) (w.heap.size + 1) v := by
  have := Sp.new (w.alloc a) v
  rw [show (w.alloc a).heap.size = w.heap.size + 1 by simp] at this
  exact (this.keep ((Keep.refl _).alloc c)).drew
set_option maxRecDepth 100000 in
set_option maxHeartbeats 1000000 in
theorem cp_no_false_a (ng : Bool) (wh pt : List UInt8) (s : List UInt8) (k : Nat) (w : World) (h : k = s.length) :
    Calls Tryz.prog 135 #[.agg #[.bool ng, .bool false, .string ⟨wh.toArray⟩, .string ⟨pt.toArray⟩, .bool false, .string ⟨#[]⟩], .string ⟨s.toArray⟩, .int .i64 (k : Int)] w fun e w' => e = .returned (.tuple #[.agg #[.bool ng, .bool false, .string ⟨wh.toArray⟩, .string ⟨pt.toArray⟩, .bool false, .string ⟨#[]⟩], .int .i64 (k : Int), .bool true]) ∧ Keep w w' := by
  have hlen : ((k : Int) == (s.length : Int)) = true := by rw [beq_iff_eq]; omega
  have hsz : (ByteArray.mk s.toArray).size = s.length := sz_mk s
  clear h
  go_enter Tryz.func135, Tryz.ntmps135
  go_wp2_with fail
  go_big_region
  go_simp
  go_wp2_with fail
  exact bodyPost_ret (results_sp rfl _ _ (w.heap.size + 1) _ _ _ _ _ _ rfl (Sp.two w _ _)) rfl ⟨rfl, Keep.two w _ _⟩
set_option maxRecDepth 100000 in
set_option maxHeartbeats 1000000 in
theorem cp_no_false_b (ng : Bool) (wh pt : List UInt8) (s : List UInt8) (k : Nat) (w : World) (h : k < s.length) (hi : Lib.indexByte [101, 69] (s.getD k 0) = -1) :
    Calls Tryz.prog 135 #[.agg #[.bool ng, .bool false, .string ⟨wh.toArray⟩, .string ⟨pt.toArray⟩, .bool false, .string ⟨#[]⟩], .string ⟨s.toArray⟩, .int .i64 (k : Int)] w fun e w' => e = .returned (.tuple #[.agg #[.bool ng, .bool false, .string ⟨wh.toArray⟩, .string ⟨pt.toArray⟩, .bool false, .string ⟨#[]⟩], .int .i64 (k : Int), .bool false]) ∧ Keep w w' := by
  have hlen : ((k : Int) == (s.length : Int)) = false := by rw [beq_eq_false_iff_ne]; omega
  have hix := fun wx => run_ix s k h wx
  have hI := fun wx => ix_any [101, 69] (s.getD k 0) wx
  rw [hi] at hI
  obtain ⟨c, hc⟩ : ∃ c, (s.getD k 0).toNat = c := ⟨_, rfl⟩
  rw [hc] at hI hix
  clear hc hi
  have hsz : (ByteArray.mk s.toArray).size = s.length := sz_mk s
  clear h
  go_enter Tryz.func135, Tryz.ntmps135
  go_wp2_with fail
  refine (hI _).mono ?_
  rintro e wz ⟨rfl, hz⟩
  rw [hz]
  clear hz
  go_wp2_with fail
  go_big_region
  go_simp
  go_wp2_with fail
  exact bodyPost_ret (results_sp rfl _ _ (w.heap.size + 1) _ _ _ _ _ _ rfl (Sp.two w _ _)) rfl ⟨rfl, Keep.two w _ _⟩
set_option maxRecDepth 100000 in
set_option maxHeartbeats 1000000 in
theorem cp_no_true_a (ng : Bool) (wh pt : List UInt8) (s : List UInt8) (k : Nat) (w : World) (h : k = s.length) :
    Calls Tryz.prog 135 #[.agg #[.bool ng, .bool true, .string ⟨wh.toArray⟩, .string ⟨pt.toArray⟩, .bool false, .string ⟨#[]⟩], .string ⟨s.toArray⟩, .int .i64 (k : Int)] w fun e w' => e = .returned (.tuple #[.agg #[.bool ng, .bool true, .string ⟨wh.toArray⟩, .string ⟨pt.toArray⟩, .bool false, .string ⟨#[]⟩], .int .i64 (k : Int), .bool false]) ∧ Keep w w' := by
  have hlen : ((k : Int) == (s.length : Int)) = true := by rw [beq_iff_eq]; omega
  have hsz : (ByteArray.mk s.toArray).size = s.length := sz_mk s
  clear h
  go_enter Tryz.func135, Tryz.ntmps135
  go_wp2_with fail
  go_big_region
  go_simp
  go_wp2_with fail
  exact bodyPost_ret (results_sp rfl _ _ (w.heap.size + 1) _ _ _ _ _ _ rfl (Sp.two w _ _)) rfl ⟨rfl, Keep.two w _ _⟩
set_option maxRecDepth 100000 in
set_option maxHeartbeats 1000000 in
theorem cp_no_true_b (ng : Bool) (wh pt : List UInt8) (s : List UInt8) (k : Nat) (w : World) (h : k < s.length) (hi : Lib.indexByte [112] (s.getD k 0) = -1) :
    Calls Tryz.prog 135 #[.agg #[.bool ng, .bool true, .string ⟨wh.toArray⟩, .string ⟨pt.toArray⟩, .bool false, .string ⟨#[]⟩], .string ⟨s.toArray⟩, .int .i64 (k : Int)] w fun e w' => e = .returned (.tuple #[.agg #[.bool ng, .bool true, .string ⟨wh.toArray⟩, .string ⟨pt.toArray⟩, .bool false, .string ⟨#[]⟩], .int .i64 (k : Int), .bool false]) ∧ Keep w w' := by
  have hlen : ((k : Int) == (s.length : Int)) = false := by rw [beq_eq_false_iff_ne]; omega
  have hix := fun wx => run_ix s k h wx
  have hI := fun wx => ix_any [112] (s.getD k 0) wx
  rw [hi] at hI
  obtain ⟨c, hc⟩ : ∃ c, (s.getD k 0).toNat = c := ⟨_, rfl⟩
  rw [hc] at hI hix
  clear hc hi
  have hsz : (ByteArray.mk s.toArray).size = s.length := sz_mk s
  clear h
  go_enter Tryz.func135, Tryz.ntmps135
  go_wp2_with fail
  refine (hI _).mono ?_
  rintro e wz ⟨rfl, hz⟩
  rw [hz]
  clear hz
  go_wp2_with fail
  go_big_region
  go_simp
  go_wp2_with fail
  exact bodyPost_ret (results_sp rfl _ _ (w.heap.size + 1) _ _ _ _ _ _ rfl (Sp.two w _ _)) rfl ⟨rfl, Keep.two w _ _⟩
end Go.Proofs.YtpdjpjkieafnbaaGreatDoor.Li
