import Derived.Test.YtpdjpjkieafnbaaDoorR9
set_option linter.unusedVariables false
set_option linter.unusedSimpArgs false
namespace Go.Proofs.YtpdjpjkieafnbaaDoor.Li
open Go.RowKit Lb
def far : Nat := 1048576
theorem cap_step (l : List UInt8) (i : Nat) (h : i < l.length) (n : Nat) (hn : n = min (nat (l.take i)) far) (d : Nat) (hd : d = dv (l.getD i 0)) : min (n * 10 + d) far = min (nat (l.take (i + 1))) far := by
  have e : l.take (i + 1) = l.take i ++ [l.getD i 0] := by
    rw [List.take_add_one]; simp [List.getD, List.getElem?_eq_getElem h]
  rw [e, nat_append]
  have e2 : nat [l.getD i 0] = d := by rw [nat_cons, hd]; simp [nat]
  rw [e2, hn]
  unfold far
  simp only [List.length_singleton, Nat.pow_one]
  omega
theorem gd_bounds {l : List UInt8} (h : allD l) {i : Nat} (hi : i < l.length) : 48 ≤ (l.getD i 0).toNat ∧ (l.getD i 0).toNat ≤ 57 := by
  have : l.getD i 0 ∈ l := by simp [List.getD, List.getElem?_eq_getElem hi]
  have := h _ this
  unfold isD at this
  exact of_decide_eq_true this
theorem next_at {l : List UInt8} (h : allD l) {i : Nat} (hi : i < l.length) (w : World) (ty : TypeId) : (Instr.next (.pointer (some ⟨w.heap.size, 0, none⟩)) true ty).run Tryd.prog (w.iter ⟨l.toArray⟩ i) = .ok (.tuple #[.bool true, .int .i64 i, .int .i32 ((l.getD i 0).toNat : Int)]) (w.iter ⟨l.toArray⟩ (i + 1)) := by
  have hs : i < (ByteArray.mk l.toArray).size := by rw [sz_mk]; exact hi
  have e : (ByteArray.mk l.toArray)[i]'hs = l.getD i 0 := by
    have : l.getD i 0 = l[i] := by simp [List.getD, List.getElem?_eq_getElem hi]
    rw [this]
    rfl
  have hb := gd_bounds h hi
  have := run_next_ascii (P := Tryd.prog) w ⟨l.toArray⟩ i ty hs (by rw [e]; omega)
  rw [e] at this
  exact this
theorem w32 {z : Nat} (h : z ≤ 9) : IntKind.i32.wrap (z : Int) = (z : Int) := by
  obtain rfl | rfl | rfl | rfl | rfl | rfl | rfl | rfl | rfl | rfl : z = 0 ∨ z = 1 ∨ z = 2 ∨ z = 3 ∨ z = 4 ∨ z = 5 ∨ z = 6 ∨ z = 7 ∨ z = 8 ∨ z = 9 := by omega
  all_goals rfl
/-- A power's worth. -/
def pwN (pn : Bool) (ds : List UInt8) : Int := if pn then -((min (nat ds) far : Nat) : Int) else ((min (nat ds) far : Nat) : Int)
theorem pwN_in (pn : Bool) (ds : List UInt8) : -1048576 ≤ pwN pn ds ∧ pwN pn ds ≤ 1048576 := by
  have : min (nat ds) far ≤ 1048576 := Nat.min_le_right _ _
  unfold pwN
  split <;> omega
set_option maxRecDepth 100000 in
set_option maxHeartbeats 2000000 in
theorem powerNumber_any (ng hx pn : Bool) (wh pt ds : List UInt8) (hd : allD ds) (hl : ds.length ≤ 4096) (w : World) :
    Calls Tryd.prog 52 #[.agg #[.bool ng, .bool hx, .string ⟨wh.toArray⟩, .string ⟨pt.toArray⟩, .bool pn, .string ⟨ds.toArray⟩]] w fun e w' => e = .returned (.int .i64 (pwN pn ds)) ∧ ∃ o p, w' = (w.alloc o).alloc (.stringIter ⟨ds.toArray⟩ p) := by
  obtain ⟨T, hT⟩ : ∃ T : Obj, T = .cells #[.bool ng, .bool hx, .string ⟨wh.toArray⟩, .string ⟨pt.toArray⟩, .bool pn, .string ⟨ds.toArray⟩] 62 := ⟨_, rfl⟩
  obtain ⟨wb, hwb⟩ : ∃ wb, w.alloc (.cells #[.bool ng, .bool hx, .string ⟨wh.toArray⟩, .string ⟨pt.toArray⟩, .bool pn, .string ⟨ds.toArray⟩] 62) = wb := ⟨_, rfl⟩
  have c4 : wb.cell? ⟨w.heap.size, 4, none⟩ = some (.bool pn) := by rw [← hwb, (Sp.new w _).cell]; rfl
  have c5 : wb.cell? ⟨w.heap.size, 5, none⟩ = some (.string ⟨ds.toArray⟩) := by rw [← hwb, (Sp.new w _).cell]; rfl
  have hlt : w.heap.size < wb.heap.size := by rw [← hwb]; simp
  have hAD : Hid (allD ds) := hd
  have Hwb : Hid (∃ o, wb = w.alloc o) := ⟨_, hwb.symm⟩
  go_enter Tryd.func52, Tryd.ntmps52
  go_wp2_with fail
  go_loopg [3] (ds.length) (fun g v3 wx => ∃ i : Nat, i + g = ds.length ∧ v3 = .int .i64 ((min (nat (ds.take i)) far : Nat) : Int) ∧ wx = wb.iter ⟨ds.toArray⟩ i)
  case atStart => exact ⟨0, by omega, by simp [nat], rfl⟩
  case round =>
    obtain ⟨i, hig, rfl, rfl⟩ := hrel
    obtain ⟨n, hn⟩ : ∃ n, min (nat (ds.take i)) far = n := ⟨_, rfl⟩
    rw [hn]
    by_cases hil : i < ds.length
    · have hnx := fun ty => next_at hAD.out hil wb ty
      have hst := cap_step ds i hil n hn.symm _ rfl
      have hb := gd_bounds hAD.out hil
      unfold dv at hst
      obtain ⟨x, hx⟩ : ∃ x, (ds.getD i 0).toNat = x := ⟨_, rfl⟩
      rw [hx] at hnx hst hb
      have hnf : n ≤ 1048576 := by rw [← hn]; exact Nat.min_le_right _ _
      obtain ⟨hb1, hb2⟩ := hb
      have w1 : IntKind.i32.wrap ((x : Int) - 48) = ((x - 48 : Nat) : Int) := by
        rw [show (x : Int) - 48 = ((x - 48 : Nat) : Int) by omega]
        obtain ⟨z, hz⟩ : ∃ z, x - 48 = z := ⟨_, rfl⟩
        have : z ≤ 9 := by omega
        rw [hz]
        exact w32 this
      obtain ⟨y, hy⟩ : ∃ y, x - 48 = y := ⟨_, rfl⟩
      rw [hy] at w1 hst
      have hy9 : y ≤ 9 := by omega
      replace hst : Hid _ := hst
      replace hn : Hid _ := hn
      clear hx hy
      by_cases hf : (n : Int) * 10 + (y : Int) < 1048576
      · go_wp2_with fail
        go_roundg (gk - 1)
        case measure => omega
        case rel =>
          refine ⟨i + 1, by omega, ?_, rfl⟩
          rw [← hst.out]
          unfold far
          congr 1
          omega
      · go_wp2_with fail
        all_goals
          go_roundg (gk - 1)
          case measure => omega
          case rel =>
            refine ⟨i + 1, by omega, ?_, rfl⟩
            rw [← hst.out]
            unfold far
            congr 1
            omega
    · obtain rfl : i = ds.length := by omega
      have hnx := fun ty => next_fin (l := ds) wb ty
      have hnf : n ≤ 1048576 := by rw [← hn]; exact Nat.min_le_right _ _
      rw [List.take_length] at hn
      replace hn : Hid _ := hn
      have it4 : (wb.iter ⟨ds.toArray⟩ ds.length).cell? ⟨w.heap.size, 4, none⟩ = some (.bool pn) := ((Keep.refl wb).alloc _).cell c4
      cases pn
      · go_wp2_with fail
        go_ret
        obtain ⟨o, ho⟩ := Hwb.out
        exact ⟨by unfold pwN; rw [hn.out]; rfl, o, ds.length, by rw [← ho]; rfl⟩
      · go_wp2_with fail
        go_ret
        obtain ⟨o, ho⟩ := Hwb.out
        exact ⟨by unfold pwN; rw [hn.out]; rfl, o, ds.length, by rw [← ho]; rfl⟩
end Go.Proofs.YtpdjpjkieafnbaaDoor.Li
