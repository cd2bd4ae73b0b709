import Derived.Test.YtaogjiffnebnkaaP6
import Derived.Deep.RegionHeld3
set_option linter.unusedVariables false
set_option linter.unusedSimpArgs false
namespace Go.Proofs.Ytaogjiffnebnkaa
open Go.RowKit Go.Shelf
theorem mk5 {a0 a1 a2 a3 a4 : Prop} (h0 : a0) (h1 : a1) (h2 : a2) (h3 : a3) (h4 : a4) : a0 ∧ a1 ∧ a2 ∧ a3 ∧ a4 := ⟨h0, h1, h2, h3, h4⟩
/-- What a scan looks at. -/
def wrk (L : List Ct) (cl ll x : Nat) : Nat := if nanB x then ll else min (fst L x + 1) L.length + cl
set_option maxRecDepth 100000 in
set_option maxHeartbeats 1000000 in
theorem Work_any (F : Int) (na : Option Addr) (L : List Ct) (nc : Nat) (ca : Option Addr) (cl cc : Nat) (la : Option Addr) (ll lc : Nat) (x : Nat) (w : World) (hLn : L.length ≤ 1048576) (hcl : cl ≤ 1048576) (hll : ll ≤ 1048576) (hr : RdC w na L) :
    Calls Try.prog 17 #[lst F na L.length nc ca cl cc la ll lc, .float .f64 x] w fun e w' => e = .returned (.int .i64 (wrk L cl ll x : Nat)) ∧ Keep w w' := by
  have hN := fun wx => IsNaN_any x wx
  have k0 : Keep w (w.alloc (Obj.cells #[Value.int IntKind.i64 F, Value.slice na L.length nc, Value.slice ca cl cc, Value.slice la ll lc] 33)) := (Keep.refl w).alloc _
  have tb : (w.alloc (Obj.cells #[Value.int IntKind.i64 F, Value.slice na L.length nc, Value.slice ca cl cc, Value.slice la ll lc] 33)).heap[w.heap.size]? = some (Obj.cells #[Value.int IntKind.i64 F, Value.slice na L.length nc, Value.slice ca cl cc, Value.slice la ll lc] 33 (0, 0)) := heap_alloc_new w _
  have hF := fun (wx : World) (k : Keep w wx) => First_any F na L nc ca cl cc la ll lc x wx hLn (hr.keep k)
  have hfl := fst_le L x
  unfold lst at hF ⊢
  cases hn : nanB x
  · have HR : Hid (wrk L cl ll x = min (fst L x + 1) L.length + cl) := by show _ = _; unfold wrk; rw [hn]; rfl
    rw [hn] at hN
    clear hn
    replace tb : Hid _ := tb
    generalize fst L x = f at *
    go_enter Try.func17, Try.ntmps17
    go_wp2_with (go_at_call 39; refine (hN _).mono ?_; rintro e w1 ⟨rfl, rfl⟩)
    generalize w.alloc _ = w1 at k0 tb ⊢
    have b0 := cell_of_row _ _ 0 _ 33 (0, 0) tb.out
    have b1 := cell_of_row _ _ 1 _ 33 (0, 0) tb.out
    have b2 := cell_of_row _ _ 2 _ 33 (0, 0) tb.out
    have b3 := cell_of_row _ _ 3 _ 33 (0, 0) tb.out
    simp only [List.getElem?_toArray, List.getElem?_cons_zero, List.getElem?_cons_succ] at b0 b1 b2 b3
    clear hN
    have KD := (Keep.refl w1).drew
    have T0 := mk5 KD (KD.cell b0) (KD.cell b1) (KD.cell b2) (KD.cell b3)
    go_region_held3 (fun wx => Keep w1 wx ∧ wx.cell? ⟨w.heap.size, 0, none⟩ = some (Value.int IntKind.i64 F) ∧ wx.cell? ⟨w.heap.size, 1, none⟩ = some (Value.slice na L.length nc) ∧ wx.cell? ⟨w.heap.size, 2, none⟩ = some (Value.slice ca cl cc) ∧ wx.cell? ⟨w.heap.size, 3, none⟩ = some (Value.slice la ll lc)) (first | with_reducible exact T0 | with_reducible exact T1) (first | (go_at_call 15; refine (hF _ k0.drew).mono ?_; rintro e w2 ⟨rfl, k2⟩; have k12 := KD.trans k2; have T1 := mk5 k12 (k12.cell b0) (k12.cell b1) (k12.cell b2) (k12.cell b3)))
    have hw1 : IntKind.i64.wrap ((f : Int) + 1) = (f : Int) + 1 := by rw [IntWalk.i64_left]; exact IntWalk.wrap64_in _ (by omega)
    have hw2 : IntKind.i64.wrap ((f : Int) + 1 + (cl : Int)) = (f : Int) + 1 + (cl : Int) := by rw [IntWalk.i64_left]; exact IntWalk.wrap64_in _ (by omega)
    have hw3 : IntKind.i64.wrap ((L.length : Int) + (cl : Int)) = (L.length : Int) + (cl : Int) := by rw [IntWalk.i64_left]; exact IntWalk.wrap64_in _ (by omega)
    replace hw1 : Hid _ := hw1
    replace hw2 : Hid _ := hw2
    replace hw3 : Hid _ := hw3
    all_goals
      go_simp
      go_wp2_with fail
    all_goals
      rename_i h
      rw [hw1.out] at h
      go_ret
      refine ⟨?_, k0.drew.trans k2⟩
      rw [HR.out]
      first
        | (rw [Nat.min_eq_left (by omega)]; show Ending.returned (Value.int IntKind.i64 (IntKind.i64.wrap (IntKind.i64.wrap ((f : Int) + 1) + (cl : Int)))) = _; rw [hw1.out, hw2.out]; rfl)
        | (rw [Nat.min_eq_right (by omega)]; show Ending.returned (Value.int IntKind.i64 (IntKind.i64.wrap ((L.length : Int) + (cl : Int)))) = _; rw [hw3.out]; rfl)
  · have HR : Hid (wrk L cl ll x = ll) := by show _ = _; unfold wrk; rw [hn]; rfl
    rw [hn] at hN
    go_enter Try.func17, Try.ntmps17
    go_wp2_with (go_at_call 39; refine (hN _).mono ?_; rintro e w1 ⟨rfl, rfl⟩)
    go_ret
    exact ⟨by rw [HR.out]; rfl, k0⟩
set_option maxRecDepth 100000 in
set_option maxHeartbeats 1000000 in
theorem rWork_any (F : Int) (na : Option Addr) (L : List Ct) (nc : Nat) (ca : Option Addr) (cl cc : Nat) (la : Option Addr) (ll lc : Nat) (x : Nat) (w : World) (hLn : L.length ≤ 1048576) (hcl : cl ≤ 1048576) (hll : ll ≤ 1048576) (hr : RdC w na L) :
    Calls Try.prog 18 #[lst F na L.length nc ca cl cc la ll lc, .float .f64 x] w fun e w' => e = .returned (.int .i64 (wrk L cl ll x : Nat)) ∧ Keep w w' := by
  obtain ⟨w1, hw1, k0, tb⟩ : ∃ w1, w.alloc (Obj.cells #[Value.int IntKind.i64 F, Value.slice na L.length nc, Value.slice ca cl cc, Value.slice la ll lc] 33) = w1 ∧ Keep w w1 ∧ w1.heap[w.heap.size]? = some (Obj.cells #[Value.int IntKind.i64 F, Value.slice na L.length nc, Value.slice ca cl cc, Value.slice la ll lc] 33 (0, 0)) := ⟨_, rfl, (Keep.refl w).alloc _, heap_alloc_new w _⟩
  have hF := rFirst_any F na L nc ca cl cc la ll lc x w1 hLn (hr.keep k0)
  have hfl := fst_le L x
  have b1 := cell_of_row _ _ 1 _ 33 (0, 0) tb
  have b2 := cell_of_row _ _ 2 _ 33 (0, 0) tb
  simp only [List.getElem?_toArray, List.getElem?_cons_zero, List.getElem?_cons_succ] at b1 b2
  unfold lst at hF ⊢
  replace hw1 : Hid _ := hw1
  clear tb
  cases hn : nanB x
  · have HR : Hid (wrk L cl ll x = min (fst L x + 1) L.length + cl) := by show _ = _; unfold wrk; rw [hn]; rfl
    have he : (FloatKind.f64.format.order x x == some .eq) = true := by unfold nanB at hn; simpa using hn
    have he2 : (FloatKind.f64.format.order x x != some Ordering.eq) = false := by rw [bne, he]; rfl
    clear he
    clear hn
    generalize fst L x = f at *
    by_cases hfL : f < L.length
    · have hfc : (f : Int) < (L.length : Int) := by omega
      go_enter Try.func18, Try.ntmps18
      go_wp2_with (go_at_call 16; rw [hw1.out]; refine hF.mono ?_; rintro e w2 ⟨rfl, k2⟩; have b1 := k2.cell b1; have b2 := k2.cell b2)
      go_ret
      refine ⟨?_, k0.trans k2⟩
      rw [HR.out, Nat.min_eq_left (by omega)]
      rfl
    · have hfc : ¬ (f : Int) < (L.length : Int) := by omega
      go_enter Try.func18, Try.ntmps18
      go_wp2_with (go_at_call 16; rw [hw1.out]; refine hF.mono ?_; rintro e w2 ⟨rfl, k2⟩; have b1 := k2.cell b1; have b2 := k2.cell b2)
      go_ret
      refine ⟨?_, k0.trans k2⟩
      rw [HR.out, Nat.min_eq_right (by omega), show f = L.length by omega]
      rfl
  · have HR : Hid (wrk L cl ll x = ll) := by show _ = _; unfold wrk; rw [hn]; rfl
    have he : (FloatKind.f64.format.order x x == some .eq) = false := by unfold nanB at hn; simpa using hn
    have he2 : (FloatKind.f64.format.order x x != some Ordering.eq) = true := by rw [bne, he]; rfl
    clear he
    go_enter Try.func18, Try.ntmps18
    go_wp2_with fail
    go_ret
    exact ⟨by rw [HR.out]; rfl, by rw [hw1.out]; exact k0⟩
end Go.Proofs.Ytaogjiffnebnkaa
