import Derived.Test.YtbchinfmdioijaaW6
import Derived.Deep.RegionHeld3
set_option linter.unusedVariables false
set_option linter.unusedSimpArgs false
namespace Go.Proofs.Ytbchinfmdioijaa
open Go.RowKit Go.Shelf
theorem place_any (a : Option Addr) (cap en : Nat) (L : List Nd) (hLn : L.length ≤ 2199023255552) (hR : Rgt L) (w : World) (hrd : RdN w a L) :
    Calls Try.prog 59 #[.slice a L.length cap, .int .i64 (en : Nat)] w fun e w' => e = .returned (.int .i64 (plc L en : Nat)) ∧ Keep w w' :=
  (callsIn_wide (n := 3)).1 (place_in 3 (by omega) a cap en L hLn hR w hrd)
/-- A vector's leaf. -/
def endN (L : List Nd) (xs : List Nat) : Nat := (way (shp L) (chs L xs) L.length).getLastD 0
theorem wyE_ok {L : List Nd} {m : Nat} (h : wyE L m = 0) : shE L = 0 ∧ lackB L m = false := by
  unfold wyE at h
  split at h
  · rename_i h0
    refine ⟨h0, ?_⟩
    cases hl : lackB L m
    · rfl
    · rw [hl] at h; cases h
  · contradiction
theorem way_last {L : List Nd} {xs : List Nat} (h : shE L = 0) : ∃ l, way (shp L) (chs L xs) L.length = l ++ [endN L xs] ∧ (shp L).K (endN L xs) = false ∧ endN L xs < L.length ∧ (way (shp L) (chs L xs) L.length).length ≤ L.length := by
  obtain ⟨e, l, h1, h2, h3, h4⟩ := way_end (shE_tr h) (chs L xs)
  have : endN L xs = e := by unfold endN; rw [h1]; simp
  rw [this]
  exact ⟨l, h1, h2, h3.lt (shE_tr h).wi, h4⟩
def lfK (L : List Nd) (xs : List Nat) : Nat := if wyE L xs.length = 0 then plc L (endN L xs) else 0
def lfV (L : List Nd) (xs : List Nat) : Int := if wyE L xs.length = 0 then (L.getD (endN L xs) nd0).vl else 0
set_option maxRecDepth 100000 in
set_option maxHeartbeats 1000000 in
theorem Leaf_any (a ax : Option Addr) (cap cx : Nat) (out : Int) (L : List Nd) (xs : List Nat) (hLn : L.length ≤ 2199023255552) (hxl : xs.length ≤ 17592186044416) (w : World) (hrd : RdN w a L) (hxd : RdF w ax xs) :
    Calls Try.prog 26 #[.agg #[.int .i64 out, .slice a L.length cap], .slice ax xs.length cx] w fun e w' => e = .returned (.tuple #[.int .i64 (lfK L xs : Nat), .int .i64 (lfV L xs), .int .i64 (wyE L xs.length)]) ∧ Keep w w' := by
  have hW := fun (wx : World) (k : Keep w wx) => Way_any a ax cap cx out L xs hLn hxl wx (hrd.keep k) (hxd.keep k)
  have k0 : Keep w (w.alloc (Obj.cells #[Value.int IntKind.i64 out, Value.slice a L.length cap] 24)) := (Keep.refl w).alloc _
  have c1 : (w.alloc (Obj.cells #[Value.int IntKind.i64 out, Value.slice a L.length cap] 24)).cell? ⟨w.heap.size, 1, none⟩ = some (.slice a L.length cap) := by
    rw [cell_of_row _ _ 1 _ 24 (0, 0) (heap_alloc_new w _)]; rfl
  have hW1 := hW _ k0
  clear hW
  by_cases hE : wyE L xs.length = 0
  · obtain ⟨hS, hlk⟩ := wyE_ok hE
    obtain ⟨l, hl, hK, hen, hll⟩ := way_last (xs := xs) hS
    have hP := fun (wx : World) (k : Keep w wx) => place_any a cap (endN L xs) L hLn (shE_rgt hS) wx (hrd.keep k)
    have HR : Hid (lfK L xs = plc L (endN L xs) ∧ lfV L xs = (L.getD (endN L xs) nd0).vl ∧ wyE L xs.length = 0) := ⟨by unfold lfK; rw [if_pos hE], by unfold lfV; rw [if_pos hE], hE⟩
    have hy : wyL L xs = l ++ [endN L xs] := by unfold wyL; rw [if_pos hE]; exact hl
    rw [hE, hy] at hW1
    rw [hl] at hll
    simp only [List.length_append, List.length_singleton] at hll
    generalize hen' : endN L xs = en at *
    clear hl hK hy hE hS hlk
    go_enter Try.func26, Try.ntmps26
    go_wp2_with fail
    generalize w.alloc _ = w1 at k0 c1 hW1 ⊢
    refine hW1.mono ?_
    rintro e w2 ⟨v, rfl, ho, hb, k2⟩
    obtain ⟨g, cv, rfl, hcv, hg, hcell⟩ := ho.cells (by simp)
    have hce := hcell l.length (by simp)
    rw [show (l ++ [en]).getD l.length 0 = en by simp [List.getD]] at hce
    have c2 := k2.cell c1
    have k02 := k0.trans k2
    obtain ⟨b, o, ca, cp, rfl, hnd⟩ := (hrd.keep k02) en hen
    have hv := hnd.c1
    have hlen : (l ++ [en]).length = l.length + 1 := by simp
    rw [hlen] at hcv ⊢
    clear ho hb hcell hlen hW1
    have hei : (en : Int) < (L.length : Int) := by omega
    go_wp2_with fail
    generalize w.heap.size = s at c2 ⊢
    generalize (L.getD en nd0).vl = V at hv HR
    have kd : Keep w w2.drew := k02.drew
    go_region_held3 (fun w' => w'.cell? ⟨s, 1, none⟩ = some (Value.slice (some ⟨b, o, none⟩) L.length cap) ∧ w'.cell? ⟨b, o + en * 8 + 1, none⟩ = some (Value.int .i64 V)) (go_keep) (first
      | (go_at_call 59; refine (hP _ ?_).mono ?_; exact kd; rintro e wA ⟨rfl, kA⟩; have s0 := Keep.cell kA c2; have s1 := Keep.cell kA hv))
    all_goals
      go_simp
      go_wp2_with fail
      go_ret3
      obtain ⟨r1, r2, r3⟩ := HR.out
      rw [r1, r2, r3]
      exact ⟨rfl, kd.trans kA⟩
  · have HR : Hid (lfK L xs = 0 ∧ lfV L xs = 0) := ⟨by unfold lfK; rw [if_neg hE], by unfold lfV; rw [if_neg hE]⟩
    have hB : (wyE L xs.length == 0) = false := by simpa using hE
    have hB2 : (wyE L xs.length != 0) = true := by simpa using hE
    generalize wyE L xs.length = E at *
    go_enter Try.func26, Try.ntmps26
    go_wp2_with fail
    generalize w.alloc _ = w1 at k0 c1 hW1 ⊢
    refine hW1.mono ?_
    rintro e w2 ⟨v, rfl, ho, hb, k2⟩
    go_wp2_with fail
    go_ret3
    rw [HR.out.1, HR.out.2]
    exact ⟨rfl, k0.trans k2⟩
end Go.Proofs.Ytbchinfmdioijaa
