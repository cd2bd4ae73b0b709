import Derived.Test.YtgjhbolnnnibkaaGreatDoorProg
import Derived.Test.YtgjhbolnnnibkaaGreatDoorFT6
import Derived.WalkKit
import Derived.WalkSpells
import Derived.WalkLawsBesides
import Derived.Deep.Draws
import Derived.Deep.QuietTactic
import Derived.Laws.Externs
import Derived.Shelf.Abstract
import Derived.Below
import Derived.Deep.RegionLaw
import Derived.Laws.CopyOwn
import Derived.BigRegion
import Derived.BigQuiet
import Derived.Deep.RegionHeld3
import Derived.Lib.Bytealg
import Derived.Laws.RangeString
import Derived.Laws.RangeAny
import Derived.Lib.OthersKept
import Derived.Deep.LoopGhost
set_option linter.unusedVariables false
set_option linter.unusedSimpArgs false
namespace Go.Proofs.YtgjhbolnnnibkaaGreatDoor
open Go.RowKit Go.Shelf
def far : Nat := 1048576
theorem cap_step (l : List UInt8) (i : Nat) (h : i < l.length) (n : Nat) (hn : n = min (nat (l.take i)) far) (d : Nat) (hd : d = dv (l.getD i 0)) : min (n * 10 + d) far = min (nat (l.take (i + 1))) far := by
  have e : l.take (i + 1) = l.take i ++ [l.getD i 0] := by
    rw [List.take_add_one]; simp [List.getD, List.getElem?_eq_getElem h]
  rw [e, nat_append]
  have e2 : nat [l.getD i 0] = d := by rw [nat_cons, hd]; simp [nat]
  rw [e2, hn]
  unfold far
  simp only [List.length_singleton, Nat.pow_one]
  omega
theorem gd_bounds {l : List UInt8} (h : allD l) {i : Nat} (hi : i < l.length) : 48 ≤ (l.getD i 0).toNat ∧ (l.getD i 0).toNat ≤ 57 := by
  have : l.getD i 0 ∈ l := by simp [List.getD, List.getElem?_eq_getElem hi]
  have := h _ this
  unfold isD at this
  exact of_decide_eq_true this
theorem next_at {l : List UInt8} (h : allD l) {i : Nat} (hi : i < l.length) (w : World) (ty : TypeId) : (Instr.next (.pointer (some ⟨w.heap.size, 0, none⟩)) true ty).run Tryz.prog (w.iter ⟨l.toArray⟩ i) = .ok (.tuple #[.bool true, .int .i64 i, .int .i32 ((l.getD i 0).toNat : Int)]) (w.iter ⟨l.toArray⟩ (i + 1)) := by
  have hs : i < (ByteArray.mk l.toArray).size := by rw [sz_mk]; exact hi
  have e : (ByteArray.mk l.toArray)[i]'hs = l.getD i 0 := by
    have : l.getD i 0 = l[i] := by simp [List.getD, List.getElem?_eq_getElem hi]
    rw [this]
    rfl
  have hb := gd_bounds h hi
  have := run_next_ascii (P := Tryz.prog) w ⟨l.toArray⟩ i ty hs (by rw [e]; omega)
  rw [e] at this
  exact this
theorem next_end {l : List UInt8} (w : World) (ty : TypeId) : (Instr.next (.pointer (some ⟨w.heap.size, 0, none⟩)) true ty).run Tryz.prog (w.iter ⟨l.toArray⟩ l.length) = .ok (.tuple #[.bool false]) (w.iter ⟨l.toArray⟩ l.length) := run_next_end w ⟨l.toArray⟩ l.length ty (by rw [sz_mk]; omega)
theorem Rr.iter {w : World} {b k : Nat} {s : List UInt8} (h : Rr w b s k) (t : ByteArray) (i : Nat) : Rr (w.iter t i) b s k := h.alloc _
theorem gro_iter {b : Nat} {a c : World} (h : a.grownBy c (some b)) (t : ByteArray) (i : Nat) : a.grownBy (c.iter t i) (some b) := gro_alloc h _
theorem w32 {z : Nat} (h : z ≤ 9) : IntKind.i32.wrap (z : Int) = (z : Int) := by
  obtain rfl | rfl | rfl | rfl | rfl | rfl | rfl | rfl | rfl | rfl : z = 0 ∨ z = 1 ∨ z = 2 ∨ z = 3 ∨ z = 4 ∨ z = 5 ∨ z = 6 ∨ z = 7 ∨ z = 8 ∨ z = 9 := by omega
  all_goals rfl
set_option maxRecDepth 100000 in
set_option maxHeartbeats 2000000 in
theorem power_none (hI : IxC) (b k : Nat) (s : List UInt8) (w : World) (hs : s.length ≤ 4096) (hk : k ≤ s.length) (h : Rr w b s k) (ht : tk s [101, 69] k = false) :
    Calls Tryz.prog 40 #[.pointer (some ⟨b, 0, none⟩)] w fun e w' => e = .returned (.tuple #[.int .i64 0, .bool true]) ∧ Rr w' b s k ∧ w.grownBy w' (some b) := by
  have hT := takes_any b k s [101, 69] w hs hk h (fun c wy => hI [101, 69] c wy)
  rw [ht] at hT
  simp only [Bool.false_eq_true, if_false] at hT
  clear ht h
  go_enter Tryz.func40, Tryz.ntmps40
  go_wp2_with (go_at_call 64; refine hT.mono ?_; rintro e w2 ⟨rfl, r2, o2⟩)
  go_ret2
  exact ⟨rfl, r2, o2.grown⟩
set_option maxRecDepth 100000 in
set_option maxHeartbeats 2000000 in
theorem power_minus (hI : IxC) (b k : Nat) (s : List UInt8) (w : World) (hs : s.length ≤ 4096) (hk : k ≤ s.length) (h : Rr w b s k) (ht : tk s [101, 69] k = true) (ht2 : tk s [45] (k + 1) = true) (ds : List UInt8) (hds : dg s (k + 2) s.length = ds) (k' : Nat) (hk' : k + 2 + ds.length = k') (ok : Bool) (hok : (ds == []) = !ok) :
    Calls Tryz.prog 40 #[.pointer (some ⟨b, 0, none⟩)] w fun e w' => e = .returned (.tuple #[.int .i64 (-((min (nat ds) far : Nat) : Int)), .bool ok]) ∧ Rr w' b s k' ∧ w.grownBy w' (some b) := by
  have hT := takes_any b k s [101, 69] w hs hk h (fun c wy => hI [101, 69] c wy)
  rw [ht] at hT
  simp only [if_true] at hT
  have hk1 : k + 1 ≤ s.length := by have := of_decide_eq_true ht; omega
  have hk2 : k + 2 ≤ s.length := by have := of_decide_eq_true ht2; omega
  have hT2 := fun wx (hx : Rr wx b s (k + 1)) => takes_any b (k + 1) s [45] wx hs hk1 hx (fun c wy => hI [45] c wy)
  rw [ht2] at hT2
  simp only [if_true] at hT2
  have hD := fun wx (hx : Rr wx b s (k + 2)) => digits_any hI b (k + 2) s.length s wx hs hk2 hs hx
  rw [hds, hk'] at hD
  have hAD : Hid (allD ds) := by rw [← hds]; exact (allD.while _).take _
  have hle : ds.length ≤ 4096 := by have := dg_le s (k + 2) s.length; rw [hds] at this; omega
  have hsz : (ByteArray.mk s.toArray).size = s.length := sz_mk s
  obtain ⟨L, hL⟩ : ∃ L, s.length = L := ⟨_, rfl⟩
  rw [hL] at hD hsz
  have t1 : True := trivial
  clear ht ht2 h hds hk' hL
  go_enter Tryz.func40, Tryz.ntmps40
  go_wp2_with (first
    | (go_at_call 64; clear t1; refine hT.mono ?_; rintro e w2 ⟨rfl, r2, o2⟩; have R2 : Hid (Rr w2 b s (k + 1)) := r2; have G2 : Hid (w.grownBy w2 (some b)) := o2.grown; clear r2 o2)
    | (go_at_call 64; refine (hT2 _ R2.out).mono ?_; rintro e w3 ⟨rfl, r3, o3⟩; have c03 := r3.c0; have R3 : Hid (Rr w3 b s (k + 2)) := r3; have G3 : Hid (w.grownBy w3 (some b)) := gro_trans G2.out o3.grown; clear r3 o3)
    | (go_at_call 65; refine (hD _ R3.out).mono ?_; rintro e w4 ⟨rfl, r4, o4⟩; have R4 : Hid (Rr w4 b s k') := r4; have G4 : Hid (w.grownBy w4 (some b)) := gro_trans G3.out o4.grown; clear r4 o4))
  go_loopg [6] (ds.length) (fun g v6 wx => ∃ i : Nat, i + g = ds.length ∧ v6 = .int .i64 ((min (nat (ds.take i)) far : Nat) : Int) ∧ wx = w4.iter ⟨ds.toArray⟩ i)
  case atStart => exact ⟨0, by omega, by simp [nat], rfl⟩
  case round =>
    obtain ⟨i, hig, rfl, rfl⟩ := hrel
    obtain ⟨n, hn⟩ : ∃ n, min (nat (ds.take i)) far = n := ⟨_, rfl⟩
    rw [hn]
    by_cases hil : i < ds.length
    · have hnx := fun ty => next_at hAD.out hil w4 ty
      have hst := cap_step ds i hil n hn.symm _ rfl
      have hb := gd_bounds hAD.out hil
      unfold dv at hst
      obtain ⟨x, hx⟩ : ∃ x, (ds.getD i 0).toNat = x := ⟨_, rfl⟩
      rw [hx] at hnx hst hb
      have hnf : n ≤ 1048576 := by rw [← hn]; exact Nat.min_le_right _ _
      obtain ⟨hb1, hb2⟩ := hb
      have w1 : IntKind.i32.wrap ((x : Int) - 48) = ((x - 48 : Nat) : Int) := by
        rw [show (x : Int) - 48 = ((x - 48 : Nat) : Int) by omega]
        obtain ⟨z, hz⟩ : ∃ z, x - 48 = z := ⟨_, rfl⟩
        have : z ≤ 9 := by omega
        rw [hz]
        exact w32 this
      obtain ⟨y, hy⟩ : ∃ y, x - 48 = y := ⟨_, rfl⟩
      rw [hy] at w1 hst
      have hy9 : y ≤ 9 := by omega
      replace hst : Hid _ := hst
      replace hn : Hid _ := hn
      clear hx hy
      by_cases hf : (n : Int) * 10 + (y : Int) < 1048576
      · go_wp2_with fail
        go_roundg (gk - 1)
        case measure => omega
        case rel =>
          refine ⟨i + 1, by omega, ?_, rfl⟩
          rw [← hst.out]
          unfold far
          congr 1
          omega
      · go_wp2_with fail
        all_goals
          go_roundg (gk - 1)
          case measure => omega
          case rel =>
            refine ⟨i + 1, by omega, ?_, rfl⟩
            rw [← hst.out]
            unfold far
            congr 1
            omega
    · obtain rfl : i = ds.length := by omega
      have hnx := fun ty => next_end (l := ds) w4 ty
      have hnf : n ≤ 1048576 := by rw [← hn]; exact Nat.min_le_right _ _
      rw [List.take_length] at hn
      replace hn : Hid _ := hn
      go_wp2_with fail
      go_ret2
      exact ⟨by rw [hn.out]; rfl, R4.out.iter _ _, gro_iter G4.out _ _⟩
set_option maxRecDepth 100000 in
set_option maxHeartbeats 2000000 in
theorem power_plus (hI : IxC) (b k : Nat) (s : List UInt8) (w : World) (hs : s.length ≤ 4096) (hk : k ≤ s.length) (h : Rr w b s k) (ht : tk s [101, 69] k = true) (ht2 : tk s [45] (k + 1) = false) (pl : Bool) (ht3 : tk s [43] (k + 1) = pl) (k2 : Nat) (hk2 : (if pl then k + 1 + 1 else k + 1) = k2) (ds : List UInt8) (hds : dg s k2 s.length = ds) (k' : Nat) (hk' : k2 + ds.length = k') (ok : Bool) (hok : (ds == []) = !ok) :
    Calls Tryz.prog 40 #[.pointer (some ⟨b, 0, none⟩)] w fun e w' => e = .returned (.tuple #[.int .i64 ((min (nat ds) far : Nat) : Int), .bool ok]) ∧ Rr w' b s k' ∧ w.grownBy w' (some b) := by
  have hT := takes_any b k s [101, 69] w hs hk h (fun c wy => hI [101, 69] c wy)
  rw [ht] at hT
  simp only [if_true] at hT
  have hk1 : k + 1 ≤ s.length := by have := of_decide_eq_true ht; omega
  have hk2s : k2 ≤ s.length := by
    rw [← hk2]
    cases pl with
    | false => simpa using hk1
    | true => have := of_decide_eq_true ht3; simp; omega
  have hT2 := fun wx (hx : Rr wx b s (k + 1)) => takes_any b (k + 1) s [45] wx hs hk1 hx (fun c wy => hI [45] c wy)
  rw [ht2] at hT2
  simp only [Bool.false_eq_true, if_false] at hT2
  have hT3 := fun wx (hx : Rr wx b s (k + 1)) => takes_any b (k + 1) s [43] wx hs hk1 hx (fun c wy => hI [43] c wy)
  rw [ht3, hk2] at hT3
  have hD := fun wx (hx : Rr wx b s k2) => digits_any hI b k2 s.length s wx hs hk2s hs hx
  rw [hds, hk'] at hD
  have hAD : Hid (allD ds) := by rw [← hds]; exact (allD.while _).take _
  have hle : ds.length ≤ 4096 := by have := dg_le s k2 s.length; rw [hds] at this; omega
  have hsz : (ByteArray.mk s.toArray).size = s.length := sz_mk s
  obtain ⟨L, hL⟩ : ∃ L, s.length = L := ⟨_, rfl⟩
  rw [hL] at hD hsz
  have t1 : True := trivial
  have t2 : True := trivial
  clear ht ht2 ht3 h hds hk' hL hk2
  go_enter Tryz.func40, Tryz.ntmps40
  go_wp2_with (first
    | (go_at_call 64; clear t1; refine hT.mono ?_; rintro e w2 ⟨rfl, r2, o2⟩; have R2 : Hid (Rr w2 b s (k + 1)) := r2; have G2 : Hid (w.grownBy w2 (some b)) := o2.grown; clear r2 o2)
    | (go_at_call 64; clear t2; refine (hT2 _ R2.out).mono ?_; rintro e v3 ⟨rfl, r3, o3⟩; have S3 : Hid (Rr v3 b s (k + 1)) := r3; have H3 : Hid (w.grownBy v3 (some b)) := gro_trans G2.out o3.grown; clear r3 o3)
    | (go_at_call 64; refine (hT3 _ S3.out).mono ?_; rintro e w3 ⟨rfl, r3, o3⟩; have c03 := r3.c0; have R3 : Hid (Rr w3 b s k2) := r3; have G3 : Hid (w.grownBy w3 (some b)) := gro_trans H3.out o3.grown; clear r3 o3)
    | (go_at_call 65; refine (hD _ R3.out).mono ?_; rintro e w4 ⟨rfl, r4, o4⟩; have R4 : Hid (Rr w4 b s k') := r4; have G4 : Hid (w.grownBy w4 (some b)) := gro_trans G3.out o4.grown; clear r4 o4))
  go_loopg [6] (ds.length) (fun g v6 wx => ∃ i : Nat, i + g = ds.length ∧ v6 = .int .i64 ((min (nat (ds.take i)) far : Nat) : Int) ∧ wx = w4.iter ⟨ds.toArray⟩ i)
  case atStart => exact ⟨0, by omega, by simp [nat], rfl⟩
  case round =>
    obtain ⟨i, hig, rfl, rfl⟩ := hrel
    obtain ⟨n, hn⟩ : ∃ n, min (nat (ds.take i)) far = n := ⟨_, rfl⟩
    rw [hn]
    by_cases hil : i < ds.length
    · have hnx := fun ty => next_at hAD.out hil w4 ty
      have hst := cap_step ds i hil n hn.symm _ rfl
      have hb := gd_bounds hAD.out hil
      unfold dv at hst
      obtain ⟨x, hx⟩ : ∃ x, (ds.getD i 0).toNat = x := ⟨_, rfl⟩
      rw [hx] at hnx hst hb
      have hnf : n ≤ 1048576 := by rw [← hn]; exact Nat.min_le_right _ _
      obtain ⟨hb1, hb2⟩ := hb
      have w1 : IntKind.i32.wrap ((x : Int) - 48) = ((x - 48 : Nat) : Int) := by
        rw [show (x : Int) - 48 = ((x - 48 : Nat) : Int) by omega]
        obtain ⟨z, hz⟩ : ∃ z, x - 48 = z := ⟨_, rfl⟩
        have : z ≤ 9 := by omega
        rw [hz]
        exact w32 this
      obtain ⟨y, hy⟩ : ∃ y, x - 48 = y := ⟨_, rfl⟩
      rw [hy] at w1 hst
      have hy9 : y ≤ 9 := by omega
      replace hst : Hid _ := hst
      replace hn : Hid _ := hn
      clear hx hy
      by_cases hf : (n : Int) * 10 + (y : Int) < 1048576
      · go_wp2_with fail
        go_roundg (gk - 1)
        case measure => omega
        case rel =>
          refine ⟨i + 1, by omega, ?_, rfl⟩
          rw [← hst.out]
          unfold far
          congr 1
          omega
      · go_wp2_with fail
        all_goals
          go_roundg (gk - 1)
          case measure => omega
          case rel =>
            refine ⟨i + 1, by omega, ?_, rfl⟩
            rw [← hst.out]
            unfold far
            congr 1
            omega
    · obtain rfl : i = ds.length := by omega
      have hnx := fun ty => next_end (l := ds) w4 ty
      have hnf : n ≤ 1048576 := by rw [← hn]; exact Nat.min_le_right _ _
      rw [List.take_length] at hn
      replace hn : Hid _ := hn
      go_wp2_with fail
      go_ret2
      exact ⟨by rw [hn.out]; rfl, R4.out.iter _ _, gro_iter G4.out _ _⟩
end Go.Proofs.YtgjhbolnnnibkaaGreatDoor
