import Derived.Test.YtgciimjcdhallaaDoorT10
set_option linter.unusedVariables false
set_option linter.unusedSimpArgs false
namespace Go.Proofs.YtgciimjcdhallaaDoor
open Go.RowKit Go.Shelf
set_option maxRecDepth 100000 in
set_option maxHeartbeats 2000000 in
theorem told_bad (ng : Bool) (wh pt : List UInt8) (P : Int) (w : World) (s : List UInt8) (k : Nat) (ok : Bool) (hs : s.length ≤ 4096) (hk : k ≤ s.length) (hb : ok = false ∨ k < s.length) :
    Calls Tryd.prog 11 #[.agg (dcl ng wh pt P), .agg #[.string ⟨s.toArray⟩, .int .i64 (k : Int)], .bool ok] w fun e w' => e = .returned (.tuple #[.int .i64 0, .int .i64 40, .int .i64 (k : Int)]) ∧ Keep w w' := by
  have s1 : (ByteArray.mk s.toArray).size = s.length := sz_mk s
  obtain ⟨L, hL⟩ : ∃ L, s.length = L := ⟨_, rfl⟩
  rw [hL] at s1 hs hk hb
  unfold dcl
  rcases Bool.eq_false_or_eq_true ok with rfl | rfl
  · have hkl : k < L := by rcases hb with q | q; · cases q
                           · exact q
    clear hb
    go_enter Tryd.func11, Tryd.ntmps11
    go_wp2_with fail
    go_region
    go_wp2_with fail
    go_ret3
    exact ⟨rfl, (((Keep.refl w).alloc _).alloc _).drew⟩
  · clear hb
    go_enter Tryd.func11, Tryd.ntmps11
    go_wp2_with fail
    go_region
    go_wp2_with fail
    go_ret3
    exact ⟨rfl, (((Keep.refl w).alloc _).alloc _).drew⟩
set_option maxRecDepth 100000 in
set_option maxHeartbeats 2000000 in
theorem told_ok (ng : Bool) (wh pt : List UInt8) (P : Int) (w : World) (s : List UInt8) (hs : s.length ≤ 4096) (hl : wh.length + pt.length ≤ 4096) (hP : -1048576 ≤ P ∧ P ≤ 1048576) (hwd : allD wh) (hpd : allD pt) (N : Nat) (hN : mv (nat (wh ++ pt)) (P - pt.length + 6) = N) :
    Calls Tryd.prog 11 #[.agg (dcl ng wh pt P), .agg #[.string ⟨s.toArray⟩, .int .i64 (s.length : Int)], .bool true] w fun e w' => e = .returned (.tuple #[.int .i64 (sgV ng N), .int .i64 (sgE ng N), .int .i64 0]) ∧ Keep w w' := by
  have hM := fun wx => millionths_any ng wh pt P wx hl hP hwd hpd N hN
  have s1 : (ByteArray.mk s.toArray).size = s.length := sz_mk s
  obtain ⟨L, hL⟩ : ∃ L, s.length = L := ⟨_, rfl⟩
  rw [hL] at s1 hs ⊢
  unfold dcl at hM ⊢
  generalize sgV ng N = V at hM ⊢
  generalize sgE ng N = E at hM ⊢
  clear hN hl hwd hpd
  go_enter Tryd.func11, Tryd.ntmps11
  go_wp2_with (go_at_call 28; refine (hM _).mono ?_; rintro e w2 ⟨rfl, k2⟩)
  go_ret3
  exact ⟨rfl, (((Keep.refl w).alloc _).alloc _).trans k2⟩
end Go.Proofs.YtgciimjcdhallaaDoor
