import Derived.Test.YtbjidpooociamaaDoorF10
import Derived.Test.YtbjidpooociamaaDoorD7
import Derived.Test.YtbjidpooociamaaDoorI5
set_option linter.unusedVariables false
set_option linter.unusedSimpArgs false
namespace Go.Proofs.YtbjidpooociamaaDoor
open Go.RowKit Lb
theorem decode_high (s : ByteArray) (pos : Nat) (h : 128 ≤ (s.get! pos).toNat) : 128 ≤ (Utf8.decode s pos).1 := by
  have hb : ∀ k, (s.get! (pos + k)).toNat < 256 := fun k => (s.get! (pos + k)).toNat_lt
  have h0 := hb 0; have h1 := hb 1; have h2 := hb 2; have h3 := hb 3
  simp only [Utf8.decode]
  repeat' split
  all_goals simp_all [Utf8.runeError]
  all_goals omega
theorem S8_get! (cs : List Nat) (k : Nat) (hk : k < cs.length) (hx : cs.getD k 0 < 256) : ((S8 cs).get! k).toNat = cs.getD k 0 := by
  have h : k < (S8 cs).size := by rw [S8_size]; exact hk
  have := S8_get cs k h hx
  rw [← this]
  congr 1
  show (S8 cs).data[k]! = (S8 cs).data[k]'_
  exact getElem!_pos _ _ _
/-- A byte that is no digit, as a rune: no digit. -/
theorem rune_bad (cs : List Nat) (p : Nat) (hp : p < cs.length) (hb : cs.getD p 0 < 256) (hx : cs.getD p 0 < 48 ∨ 58 ≤ cs.getD p 0) : (Utf8.decode (S8 cs) p).1 < 48 ∨ 58 ≤ (Utf8.decode (S8 cs) p).1 := by
  have hg := S8_get! cs p hp hb
  have hs : p < (S8 cs).size := by rw [S8_size]; exact hp
  by_cases h : cs.getD p 0 < 128
  · have := decode_ascii (S8 cs) p hs (by rw [S8_get cs p hs hb]; exact h)
    rw [this, S8_get cs p hs hb]
    exact hx
  · have := decode_high (S8 cs) p (by rw [hg]; omega)
    omega
set_option maxRecDepth 100000 in
set_option maxHeartbeats 400000 in
theorem Read_none (w : World) : Calls Tryd.prog 27 #[.string (S8 [])] w fun e w' => e = .returned (.tuple #[.slice none 0 0, .int .i64 10, .int .i64 0]) ∧ Keep w w' := by
  have hne : (S8 []).toList.isEmpty = true := by rw [ByteArray.toList_eq]; rfl
  go_enter Tryd.func27, Tryd.ntmps27
  go_wp2_with fail
  go_ret3
  exact ⟨rfl, Keep.refl _⟩
set_option maxRecDepth 100000 in
set_option maxHeartbeats 400000 in
theorem Read_bad (cs : List Nat) (p : Nat) (w : World) (hb : ∀ x ∈ cs, x < 256) (hp : p < cs.length) (hd : ∀ i, i < p → 48 ≤ cs.getD i 0 ∧ cs.getD i 0 < 58) (hx : cs.getD p 0 < 48 ∨ 58 ≤ cs.getD p 0) (_hl : cs.length ≤ 1099511627776) :
    Calls Tryd.prog 27 #[.string (S8 cs)] w fun e w' => e = .returned (.tuple #[.slice none 0 0, .int .i64 10, .int .i64 (p : Nat)]) ∧ Keep w w' := by
  have hsz := S8_size cs
  have hne : (S8 cs).toList.isEmpty = false := by
    rw [ByteArray.toList_eq]
    simp [S8]
    intro h; simp [h] at hp
  have hru := rune_bad cs p hp (hb _ (by simp [List.getD, hp])) hx
  go_enter Tryd.func27, Tryd.ntmps27
  go_wp2_with fail
  have hit0 : (w.iter (S8 cs) 0).heap[w.heap.size]? = some (.stringIter (S8 cs) 0) := World.iter_heap w _ 0
  have hk0 : Keep w (w.iter (S8 cs) 0) := (Keep.refl w).alloc _
  generalize w.iter (S8 cs) 0 = w2 at hit0 hk0 ⊢
  go_loopw [] (fun wr => ∃ k : Nat, k ≤ p ∧ wr.heap[w.heap.size]? = some (.stringIter (S8 cs) k) ∧ Keep w wr) (fun wr => cs.length - wr.iterPos w.heap.size)
  case atStart => exact ⟨0, by omega, hit0, hk0⟩
  case round =>
    obtain ⟨k, hk, hit, hkp⟩ := hrel
    have hkl : k < cs.length := by omega
    have hks : k < (S8 cs).size := by rw [hsz]; exact hkl
    by_cases hkp' : k < p
    · obtain ⟨x, hx⟩ : ∃ x, cs.getD k 0 = x := ⟨_, rfl⟩
      obtain ⟨hx1, hx2⟩ := hd k hkp'
      rw [hx] at hx1 hx2
      have hb : ((S8 cs)[k]'hks).toNat = x := by rw [S8_get cs k hks (by omega)]; exact hx
      have hnx := fun ty => Lib.run_next_ascii_at (P := Tryd.prog) wr w.heap.size (S8 cs) k ty hit hks (by omega)
      rw [hb] at hnx
      have hit1 := Lib.iterAt_heap wr w.heap.size (S8 cs) k (k + 1) hit
      have hkp1 : Keep w (wr.iterAt w.heap.size (S8 cs) (k + 1)) := iterAt_keep hkp (by omega) _ _
      have Hit := hit
      have hd1 : decide ((x : Int) < 48) = false := by simp; omega
      clear hb hx hit hkp hks
      generalize wr.iterAt w.heap.size (S8 cs) (k + 1) = w3 at hnx hit1 hkp1
      go_wp2_with fail
      go_roundw
      case rel => exact ⟨k + 1, by omega, hit1, hkp1⟩
      case measure => rw [iterPos_of hit1, iterPos_of Hit]; omega
    · obtain rfl : k = p := by omega
      have hnx := fun ty => Lib.run_next_any_at (P := Tryd.prog) wr w.heap.size (S8 cs) k ty hit hks
      generalize (Utf8.decode (S8 cs) k).2 = sz at hnx
      generalize (Utf8.decode (S8 cs) k).1 = d at hnx hru
      have hkp1 : Keep w (wr.iterAt w.heap.size (S8 cs) (k + sz)) := iterAt_keep hkp (by omega) _ _
      generalize wr.iterAt w.heap.size (S8 cs) (k + sz) = w3 at hnx hkp1
      clear hit hkp hks hx hd hb
      by_cases hlow : d < 48
      · have hd1 : decide ((d : Int) < 48) = true := by simp; omega
        go_wp2_with fail
        go_ret3
        exact ⟨rfl, hkp1⟩
      · have hd1 : decide ((d : Int) < 48) = false := by simp; omega
        have hd2 : decide ((57 : Int) < (d : Int)) = true := by simp; omega
        go_wp2_with fail
        go_ret3
        exact ⟨rfl, hkp1⟩
end Go.Proofs.YtbjidpooociamaaDoor
namespace Go.Proofs.YtbjidpooociamaaDoor
open Go.RowKit Lb
set_option maxRecDepth 100000 in
set_option maxHeartbeats 400000 in
theorem rRead_none (w : World) : Calls Tryd.prog 28 #[.string (S8 [])] w fun e w' => e = .returned (.tuple #[.slice none 0 0, .int .i64 10, .int .i64 0]) ∧ Keep w w' := by
  have hsz : (S8 []).size = 0 := rfl
  go_enter Tryd.func28, Tryd.ntmps28
  go_wp2_with fail
  refine wp_loop_rounds 1 ?_
  rw [rounds_succ]
  go_wp2_with fail
  go_ret3
  exact ⟨rfl, Keep.refl _⟩
set_option maxRecDepth 100000 in
set_option maxHeartbeats 400000 in
theorem rRead_bad (cs : List Nat) (p : Nat) (w : World) (hb : ∀ x ∈ cs, x < 256) (hp : p < cs.length) (hd : ∀ i, i < p → 48 ≤ cs.getD i 0 ∧ cs.getD i 0 < 58) (hx : cs.getD p 0 < 48 ∨ 58 ≤ cs.getD p 0) (hl : cs.length ≤ 1099511627776) :
    Calls Tryd.prog 28 #[.string (S8 cs)] w fun e w' => e = .returned (.tuple #[.slice none 0 0, .int .i64 10, .int .i64 (p : Nat)]) ∧ Keep w w' := by
  have hsz := S8_size cs
  have hx8 := hb (cs.getD p 0) (by simp [List.getD, hp])
  go_enter Tryd.func28, Tryd.ntmps28
  go_wp2_with fail
  go_loopw [5] (fun iv wr => ∃ k : Nat, k ≤ p ∧ iv = .int .i64 k ∧ Keep w wr) (fun iv _ => cs.length - (intOf iv).toNat)
  case atStart => exact ⟨0, by omega, rfl, Keep.refl _⟩
  case round =>
    obtain ⟨k, hk, rfl, hkp⟩ := hrel
    have hkl : k < cs.length := by omega
    have hks : k < (S8 cs).size := by rw [hsz]; exact hkl
    by_cases hkp' : k < p
    · obtain ⟨hx1, hx2⟩ := hd k hkp'
      have hg := S8_get cs k hks (by omega)
      obtain ⟨x, hx⟩ : ∃ x, cs.getD k 0 = x := ⟨_, rfl⟩
      rw [hx] at hx1 hx2 hg
      have hd1 : decide ((x : Int) < 48) = false := by simp; omega
      go_wp2_with fail
      go_roundw
      case rel => exact ⟨k + 1, by omega, by go_num, hkp⟩
      case measure => simp [intOf]; omega
    · obtain rfl : k = p := by omega
      have hg := S8_get cs k hks hx8
      obtain ⟨x, hx'⟩ : ∃ x, cs.getD k 0 = x := ⟨_, rfl⟩
      rw [hx'] at hx hg hx8
      by_cases hlow : x < 48
      · have hd1 : decide ((x : Int) < 48) = true := by simp; omega
        go_wp2_with fail
        go_ret3
        exact ⟨rfl, hkp⟩
      · have hd1 : decide ((x : Int) < 48) = false := by simp; omega
        have hd2 : decide ((57 : Int) < (x : Int)) = true := by simp; omega
        go_wp2_with fail
        go_ret3
        exact ⟨rfl, hkp⟩
theorem numv_cut (cs : List Nat) (i j : Nat) (hij : i ≤ j) (hj : j ≤ cs.length) : numv (cs.take j) = numv (cs.take i) * 10 ^ (j - i) + numv ((cs.take j).drop i) := by
  have h := numv_append ((cs.take j).take i) ((cs.take j).drop i)
  rw [List.take_append_drop, List.take_take, Nat.min_eq_left hij, List.length_drop, List.length_take, Nat.min_eq_left hj] at h
  exact h
theorem numv_more (cs : List Nat) (i j : Nat) (hij : i ≤ j) (hj : j < cs.length) : numv ((cs.take (j + 1)).drop i) = numv ((cs.take j).drop i) * 10 + (cs.getD j 0 - 48) := by
  have e : cs.take (j + 1) = cs.take j ++ [cs.getD j 0] := by
    rw [List.take_succ_eq_append_getElem hj]
    simp [List.getD, hj]
  rw [e, List.drop_append_of_le_length (by simp; omega), numv_snoc]
theorem ten_lt (i : Nat) (V : Nat) (h : V < 10 ^ i) : V < 4294967296 ^ i := Nat.lt_of_lt_of_le h (Nat.pow_le_pow_left (by omega) _)
set_option maxRecDepth 100000 in
set_option maxHeartbeats 1600000 in
theorem rRead_good (cs : List Nat) (w : World) (hcs : ∀ x ∈ cs, 48 ≤ x ∧ x < 58) (h0 : cs ≠ []) (hl : cs.length ≤ 1048576) :
    Calls Tryd.prog 28 #[.string (S8 cs)] w fun e w' => ∃ v l, e = .returned (.tuple #[v, .int .i64 0, .int .i64 0]) ∧ Own w.heap.size w' v l ∧ Lim l ∧ Nrm l ∧ val l = numv cs ∧ Keep w w' := by
  have hsz := S8_size cs
  have hpos : 0 < cs.length := List.length_pos_iff.2 h0
  have hne0 : ((cs.length : Int) == 0) = false := by simp; omega
  have hdig : ∀ k, k < cs.length → 48 ≤ cs.getD k 0 ∧ cs.getD k 0 < 58 := fun k hk => hcs _ (by simp [List.getD, hk])
  go_enter Tryd.func28, Tryd.ntmps28
  go_wp2_with fail
  go_loopw [5] (fun iv wr => ∃ k : Nat, k ≤ cs.length ∧ iv = .int .i64 k ∧ w = wr) (fun iv _ => cs.length - (intOf iv).toNat)
  case atStart => exact ⟨0, by omega, rfl, rfl⟩
  case round =>
    obtain ⟨k, hk, rfl, rfl⟩ := hrel
    by_cases hkl : k < cs.length
    · have hks : k < (S8 cs).size := by rw [hsz]; exact hkl
      obtain ⟨hx1, hx2⟩ := hdig k hkl
      have hg := S8_get cs k hks (by omega)
      obtain ⟨x, hx⟩ : ∃ x, cs.getD k 0 = x := ⟨_, rfl⟩
      rw [hx] at hx1 hx2 hg
      have hd1 : decide ((x : Int) < 48) = false := by simp; omega
      go_wp2_with fail
      go_roundw
      case rel => exact ⟨k + 1, by omega, by go_num, by first | rfl | trivial⟩
      case measure => simp [intOf]; omega
    · go_wp2_with fail
      clear hkl hk
      go_loopw [6, 7] (fun ov iv wr => ∃ (i : Nat) (lo : List Nat), i ≤ cs.length + 9 ∧ iv = .int .i64 i ∧ Own w.heap.size wr ov lo ∧ Lim lo ∧ Nrm lo ∧ Hid (val lo = numv (cs.take i)) ∧ Keep w wr) (fun _ iv _ => cs.length - (intOf iv).toNat)
      case atStart => exact ⟨0, [], by omega, rfl, World.ownsRow_nil _ _ _ _, by intro x hx; simp at hx, by simp [Nrm], rfl, Keep.refl _⟩
      case round =>
        obtain ⟨i, lo, hi, rfl, oo, mo, no, eo, hkp⟩ := hrel
        have oo' := oo
        obtain ⟨ao, co, rfl, hco, ro⟩ := oo.shape
        by_cases hil : i < cs.length
        · have hlo : lo.length ≤ i := len_le_pow no i (by
            rw [eo.out]
            have h1 := numv_lt (cs.take i) (fun x hx => hcs x (List.mem_of_mem_take hx))
            rw [List.length_take, Nat.min_eq_left (by omega)] at h1
            exact ten_lt i _ h1)
          go_wp2_with fail
          go_loopw [8, 9, 10] (fun nv tv jv wx => ∃ (j n t : Nat), i ≤ j ∧ j ≤ cs.length ∧ j ≤ i + 9 ∧ jv = .int .i64 j ∧ nv = .int .u64 n ∧ tv = .int .u64 t ∧ n < t ∧ t ≤ 1000000000 ∧ Hid (t = 10 ^ (j - i)) ∧ Hid (n = numv ((cs.take j).drop i)) ∧ wr = wx) (fun _ _ jv _ => cs.length - (intOf jv).toNat)
          case atStart => exact ⟨i, 0, 1, by omega, by omega, by omega, rfl, rfl, rfl, by omega, by omega, by show _ = _; simp, by show _ = _; simp [numv], by first | rfl | trivial⟩
          case round =>
            obtain ⟨j, n, t, hij, hjl, hj9, rfl, rfl, rfl, hnt, ht9, et, en, hwx⟩ := hrel
            subst hwx
            by_cases hgo : j < cs.length ∧ j < i + 9
            · obtain ⟨hj1, hj2⟩ := hgo
              have hks : j < (S8 cs).size := by rw [hsz]; exact hj1
              obtain ⟨hx1, hx2⟩ := hdig j hj1
              have hg := S8_get cs j hks (by omega)
              have hmore := numv_more cs i j hij hj1
              obtain ⟨x, hx⟩ : ∃ x, cs.getD j 0 = x := ⟨_, rfl⟩
              rw [hx] at hx1 hx2 hg hmore
              have ht8 : t ≤ 100000000 := by
                rw [et.out]
                exact Nat.le_trans (Nat.pow_le_pow_right (by omega) (show j - i ≤ 8 by omega)) (by decide)
              have HT : Hid (10 * t = 10 ^ (j + 1 - i)) := by
                show _ = _
                rw [et.out, show j + 1 - i = (j - i) + 1 by omega, Nat.pow_succ, Nat.mul_comm]
              have HN : Hid (10 * n + (x - 48) = numv ((cs.take (j + 1)).drop i)) := by
                show _ = _
                rw [hmore, en.out, Nat.mul_comm]
              have hg1 : decide ((j : Int) < (cs.length : Int)) = true := by simp; omega
              have hg2 : decide ((j : Int) < (i : Int) + 9) = true := by simp; omega
              clear hmore et en hx
              go_wp2_with fail
              go_roundw
              case rel => exact ⟨j + 1, 10 * n + (x - 48), 10 * t, by omega, by omega, by omega, by go_num, by simp; omega, by simp, by omega, by omega, HT, HN, by first | rfl | trivial⟩
              case measure => simp [intOf]; omega
            · have hgo0 := hgo
              have hg12 : j = cs.length ∨ (j = i + 9 ∧ j < cs.length) := by omega
              have HJ : Hid (numv (cs.take (i + 9)) = numv (cs.take i) * t + n) := by
                show _ = _
                have h1 := numv_cut cs i j hij hjl
                rw [et.out, en.out, ← h1]
                congr 1
                by_cases h9 : j = i + 9
                · rw [h9]
                · rw [List.take_of_length_le (by omega), List.take_of_length_le (by omega)]
              have hF1 := fun wx => rFrom_any t wx (by omega)
              have hF2 := fun wx => rFrom_any n wx (by omega)
              clear et en hgo0 hgo
              rcases hg12 with rfl | ⟨rfl, hg1⟩
              all_goals
                go_wp2_with fail
                refine (hF1 wr).mono ?_
                rintro e w3 ⟨v3, l3, rfl, o3, m3, p3, e3, k3⟩
                obtain ⟨a3, c3, rfl, hc3, r3⟩ := o3.shape
                have hl3 := len_two p3 (by omega)
                have hM := rMul_any ao a3 co c3 lo l3 w3 (by omega) (by omega) (by omega) (ro.keep k3) r3 mo m3
                go_wp2_with fail
                refine hM.mono ?_
                rintro e w4 ⟨v4, l4, rfl, o4, m4, p4, e4, k4⟩
                obtain ⟨a4, c4, rfl, hc4, r4⟩ := o4.shape
                have hl4 : l4.length ≤ lo.length + l3.length := len_le_pow p4 _ (by
                  rw [e4, Nat.pow_add]
                  exact Nat.mul_lt_mul_of_lt_of_le (val_lt mo) (Nat.le_of_lt (val_lt m3)) (Nat.pos_of_ne_zero (by simp)))
                clear hM
                go_wp2_with fail
                refine (hF2 w4).mono ?_
                rintro e w5 ⟨v5, l5, rfl, o5, m5, p5, e5, k5⟩
                obtain ⟨a5, c5, rfl, hc5, r5⟩ := o5.shape
                have hl5 := len_two p5 (by omega)
                have hA := rAdd_any a4 a5 c4 c5 l4 l5 w5 (by omega) (by omega) (r4.keep k5) r5 m4 m5
                go_wp2_with fail
                refine hA.mono ?_
                rintro e w6 ⟨v6, l6, rfl, o6, m6, p6, e6, k6⟩
                have o6' := o6
                obtain ⟨a6, c6, rfl, hc6, r6⟩ := o6.shape
                have H6 : Hid (val l6 = numv (cs.take (i + 9))) := by show _ = _; rw [e6, e4, e3, e5, HJ.out, eo.out]
                have kk := ((hkp.trans k3).trans k4).trans k5
                clear hA e3 e4 e5 e6 HJ eo
                go_wp2_with fail
                go_roundw
                case rel => exact ⟨i + 9, l6, by omega, by go_num, o6'.mono kk.le, m6, p6, H6, kk.trans k6⟩
                case measure => simp [intOf]; omega
        · have HE : Hid (val lo = numv cs) := by
            show _ = _
            rw [eo.out, List.take_of_length_le (by omega)]
          have hg1 : decide ((i : Int) < (cs.length : Int)) = false := by simp; omega
          go_wp2_with fail
          go_ret3
          exact ⟨_, _, rfl, oo', mo, no, HE.out, hkp⟩
end Go.Proofs.YtbjidpooociamaaDoor
namespace Go.Proofs.YtbjidpooociamaaDoor
open Go.RowKit Lb
/-- A slice that owns its bytes (made by append). -/
def Own8 (B : Nat) (w : World) (v : Value) (l : List Nat) : Prop := w.ownsRow B 5 1 v l.length (V8 l)
theorem Own8.keep {B : Nat} {w w' : World} {v : Value} {l : List Nat} (h : Own8 B w v l) (k : Keep w w') : Own8 B w' v l := by
  refine ⟨h.1, ?_⟩
  rcases h.2 with h2 | ⟨g, cap, cur, hv, hg, hh, r⟩
  · exact .inl h2
  · exact .inr ⟨g, cap, cur, hv, hg, by rw [k.block g (Array.getElem?_eq_some_iff.1 hh).1]; exact hh, r⟩
theorem Own8.shape {B : Nat} {w : World} {v : Value} {l : List Nat} (h : Own8 B w v l) : ∃ a c, v = .slice a l.length c ∧ l.length ≤ c ∧ (∀ j, j < l.length → ∃ g, a = some ⟨g, 0, none⟩ ∧ w.cell? ⟨g, j, none⟩ = some (.int .u8 (l.getD j 0 : Nat))) := by
  rcases h.2 with ⟨h1, h2⟩ | ⟨g, cap, cur, hv, hg, hh, h1, h2, h3, h4⟩
  · exact ⟨none, 0, by rw [h1, h2], by omega, fun j hj => by omega⟩
  · refine ⟨some ⟨g, 0, none⟩, cap, hv, h1, ?_⟩
    intro j hj
    refine ⟨g, rfl, ?_⟩
    rw [cell_of_row w g j cur 5 (0, 0) hh, ← V8_get l j hj, ← h4]
    simp [hj]
/-- Blocks of limbs are left as they were. -/
def Blocks62 (w w' : World) : Prop := ∀ (g : Nat) (cs : Array Value) (f : Nat × Nat), w.heap[g]? = some (Obj.cells cs 62 f) → w'.heap[g]? = some (Obj.cells cs 62 f)
theorem Own.blocks {B : Nat} {w w' : World} {v : Value} {l : List Nat} (h : Own B w v l) (k : Blocks62 w w') : Own B w' v l := by
  refine ⟨h.1, ?_⟩
  rcases h.2 with h2 | ⟨g, cap, cur, hv, hg, hh, r⟩
  · exact .inl h2
  · exact .inr ⟨g, cap, cur, hv, hg, k g _ _ hh, r⟩
/-- back = append(back, x). -/
theorem wpList_app8 {w0 wr : World} {ops : Array Oper} {rest : List Oper} {o : Oper} {a : Act} {Q : Exit → Act → World → Prop} (hgd : o.guard = none) (s x : Operand)
    (ho : o.op = .call { callee := .builtin .append, args := #[s, x], argTypes := #[72, 72] }) (l : List Nat) (v : Value) (hs : a.eval s = v) (Y : Int) (y : Nat) (hY : Y = (y : Int))
    (hx : a.eval x = .slice (some ⟨wr.heap.size, 0, none⟩) 1 1) (hown : Own8 w0.heap.size wr v l) (hk : Keep w0 wr) (hlen : l.length < 35184372088832)
    (hK : ∀ v' w1, Own8 w0.heap.size w1 v' (l ++ [y]) → Keep w0 w1 → Blocks62 wr w1 → wpList Tryd.prog ops Q rest (a.put o.dst v') w1) :
    wpList Tryd.prog ops Q (o :: rest) a (wr.alloc (.cells #[.int .u8 Y] 5)) := by
  obtain ⟨i0, hi, hz0, hz1, hz2⟩ := info_parts i5
  subst hY
  refine wpList_append_own _ hgd s x 72 ho w0.heap.size 5 i0 (.int .u8 0) 1 1 Tryd.underlying72 hi hz0 hz1 hz2 rfl (by decide) v _ _ hs (hown.alloc _) ⟨wr.heap.size, 0, none⟩ 1 1 [.int .u8 (y : Int)] hx rfl ?_ ?_ ?_ ?_ ?_ ?_
  · intro j u hj
    match j, hj with
    | 0, hj => simp at hj; subst hj; simp [Addr.add]
  · intro u hu; simp at hu; subst hu; rfl
  · simp only [maxLen]; omega
  · omega
  · have := hk.le; simp; omega
  · intro v' w1 h1 h2 _
    refine hK v' w1 ?_ ?_ ?_
    · unfold Own8; simpa [V8] using h1
    · refine Below.grown (hk.alloc _) h2 (by have := hk.le; simp; omega) ?_
      intro k hk'
      have := hown.lt k hk'
      exact this.1
    · intro g cs f hg
      have hlt : g < wr.heap.size := (Array.getElem?_eq_some_iff.1 hg).1
      have h3 : (wr.alloc (.cells #[.int .u8 (y : Int)] 5)).heap[g]? = some (.cells cs 62 f) := by
        rw [((Keep.refl wr).alloc (.cells #[.int .u8 (y : Int)] 5)).block g hlt]; exact hg
      have hne : some g ≠ v.ownBlock := by
        intro he
        rcases hown.2 with ⟨h4, -⟩ | ⟨g', cap, cur, h4, -, hh, -⟩
        · rw [h4] at he; cases he
        · rw [h4] at he
          have he : some g = some g' := he
          simp only [Option.some.injEq] at he
          subst he
          rw [hh] at hg
          simp at hg
      rw [h2.block g (Array.getElem?_eq_some_iff.1 h3).1 hne]
      exact h3
/-- A natural's digits, the lowest first. -/
def rdig (n : Nat) : List Nat := if h : n = 0 then [] else (48 + n % 10) :: rdig (n / 10)
termination_by n
decreasing_by omega
theorem rdig_zero : rdig 0 = [] := by rw [rdig]; simp
theorem rdig_pos {n : Nat} (h : 0 < n) : rdig n = (48 + n % 10) :: rdig (n / 10) := by rw [rdig]; simp; omega
theorem rdig_len : ∀ (N V : Nat), V < 10 ^ N → (rdig V).length ≤ N
  | 0, V, h => by
    have : V = 0 := by simp at h; omega
    subst this; rw [rdig_zero]; simp
  | N + 1, V, h => by
    by_cases h0 : V = 0
    · subst h0; rw [rdig_zero]; simp
    · rw [rdig_pos (by omega), List.length_cons]
      have := rdig_len N (V / 10) (by rw [Nat.pow_succ] at h; omega)
      omega
theorem cut0_snoc (A : List Nat) (d : Nat) (h : cut0 A ≠ []) : cut0 (A ++ [d]) = cut0 A ++ [d] := by
  unfold cut0 at *
  induction A with
  | nil => simp at h
  | cons x xs ih =>
    rw [List.cons_append, List.dropWhile_cons, List.dropWhile_cons] at *
    split
    · rename_i hx
      rw [if_pos hx] at h
      exact ih h
    · rfl
theorem cut0_all (A : List Nat) (d : Nat) (h : cut0 A = []) : cut0 (A ++ [d]) = cut0 [d] := by
  unfold cut0 at *
  induction A with
  | nil => rfl
  | cons x xs ih =>
    rw [List.dropWhile_cons] at h
    split at h
    · rename_i hx
      rw [List.cons_append, List.dropWhile_cons, if_pos hx]
      exact ih h
    · simp at h
theorem rdig_dw : ∀ (k n : Nat), 0 < n → n < 10 ^ k → cut0 (dw k n) = (rdig n).reverse
  | 0, n, h, h1 => by simp at h1; omega
  | k + 1, n, h, h1 => by
    rw [dw, rdig_pos h, List.reverse_cons]
    by_cases h0 : n / 10 = 0
    · rw [h0, rdig_zero, cut0_all _ _ (cut0_zero k)]
      have : 48 + n % 10 ≠ 48 := by omega
      simp [cut0, List.dropWhile_cons]
      omega
    · have hp : 0 < n / 10 := by omega
      have hlt : n / 10 < 10 ^ k := by rw [Nat.pow_succ] at h1; omega
      rw [cut0_snoc _ _ (cut0_ne _ _ hp hlt), rdig_dw k (n / 10) hp hlt]
theorem rdig_dec {n : Nat} (h : 0 < n) : (rdig n).reverse = dec n := by
  unfold dec
  rw [if_neg (by omega), rdig_dw n n h (lt_pow n)]
theorem rdig_step (q n e : Nat) (h : 0 < q * 10 ^ (e + 1) + n) : rdig (q * 10 ^ (e + 1) + n) = (48 + n % 10) :: rdig (q * 10 ^ e + n / 10) := by
  rw [rdig_pos h]
  have e1 : q * 10 ^ (e + 1) = 10 * (q * 10 ^ e) := by rw [Nat.pow_succ, ← Nat.mul_assoc, Nat.mul_comm]
  rw [e1]
  congr 2 <;> omega
end Go.Proofs.YtbjidpooociamaaDoor
namespace Go.Proofs.YtbjidpooociamaaDoor
open Go.RowKit Lb
theorem B_ten (n : Nat) : 4294967296 ^ n ≤ 10 ^ (10 * n) := by
  rw [Nat.pow_mul]
  exact Nat.pow_le_pow_left (by decide) _
set_option maxRecDepth 100000 in
set_option maxHeartbeats 1600000 in
theorem rPrint_any (a : Option Addr) (ca : Nat) (la : List Nat) (w : World) (hca : la.length ≤ ca) (hla : la.length ≤ 1048576) (hra : Rd w a la) (hma : Lim la) :
    Calls Tryd.prog 30 #[.slice a la.length ca] w fun e w' => e = .returned (.string (S8 (dec (val la)))) ∧ Keep w w' := by
  have l1 := nl_le la
  have e1 : (la.take (nl la)).length ≤ 1048576 := by simp; omega
  have mx := Lim_take hma (nl la)
  have nx := Nrm_take la
  have vx := val_take_nl la
  have hN1 := rNorm_any a ca la w hca (by omega) hra
  rw [← vx]
  generalize la.take (nl la) = x at *
  clear vx l1 hra hma hca hla
  have hz1 : (fun (wx : World) => True) w := trivial
  clear hz1
  by_cases hx0 : x = []
  · subst hx0
    go_enter Tryd.func30, Tryd.ntmps30
    go_wp2_with fail
    refine hN1.mono ?_
    rintro e w1 ⟨v1, rfl, o1, k1⟩
    obtain ⟨a1, c1, rfl, hc1, r1⟩ := o1.shape
    go_wp2_with fail
    go_ret
    exact ⟨rfl, k1⟩
  · have hl0 : 0 < x.length := List.length_pos_iff.2 hx0
    have hV0 : 0 < val x := val_pos nx hx0
    have hVl : (rdig (val x)).length ≤ 10485760 := Nat.le_trans (rdig_len (10 * x.length) _ (Nat.lt_of_lt_of_le (val_lt mx) (B_ten x.length))) (by omega)
    have hdec := rdig_dec hV0
    obtain ⟨V, hV⟩ : ∃ V, val x = V := ⟨_, rfl⟩
    rw [hV] at hV0 hVl hdec ⊢
    have HD : Hid ((rdig V).reverse = dec V) := hdec
    have HV : Hid (val x = V) := hV
    have hg0 : ((x.length : Int) == 0) = false := by simp; omega
    have HV0 : Hid (0 < V) := hV0
    clear hdec hV hV0
    go_enter Tryd.func30, Tryd.ntmps30
    go_wp2_with fail
    refine hN1.mono ?_
    rintro e w1 ⟨v1, rfl, o1, k1⟩
    have o1' := o1
    obtain ⟨a1, c1, rfl, hc1, r1⟩ := o1.shape
    clear hN1
    go_wp2_with fail
    go_loopw [3, 4] (fun xv bv wr => ∃ (lx bk : List Nat), Own w.heap.size wr xv lx ∧ Lim lx ∧ Nrm lx ∧ lx.length ≤ 1048576 ∧ Own8 w.heap.size wr bv bk ∧ Hid (bk ++ rdig (val lx) = rdig V) ∧ Keep w wr) (fun xv _ wr => limbsAt wr xv)
    case atStart => exact ⟨x, [], o1', mx, nx, e1, World.ownsRow_nil _ _ _ _, by show _ = _; rw [HV.out]; rfl, k1⟩
    case round =>
      clear mx nx e1 hx0 hl0 o1 o1' r1 hc1
      obtain ⟨lx, bk, ox, mx, nx, hlx, ob, hbk, hkp⟩ := hrel
      obtain ⟨wo, hwo⟩ : ∃ wo, wo = wr := ⟨_, rfl⟩
      subst hwo
      have ox' := ox
      have ob' := ob
      obtain ⟨ax, cx, rfl, hcx, rx⟩ := ox.shape
      obtain ⟨ab, cb, rfl, hcb, rb⟩ := ob.shape
      have hms := limbsAt_eq (c := cx) rx
      by_cases h0 : lx = []
      · subst h0
        have hb : bk = rdig V := by
          have := hbk.out
          rw [show val [] = 0 from rfl, rdig_zero, List.append_nil] at this
          exact this
        subst hb
        have hbl : (rdig V).length ≤ 10485760 := hVl
        generalize hbe : rdig V = bs at *
        clear hbk hms hVl
        simp only [List.length_nil] at *
        go_wp2_with fail
        go_loopw [11, 12] (fun ov iv wr => ∃ (k : Nat) (os : List Nat), k ≤ bs.length ∧ iv = .int .i64 ((k : Int) - 1) ∧ Own8 wo.heap.size wr ov os ∧ Hid (os = (bs.drop k).reverse) ∧ Keep wo wr) (fun _ iv _ => (intOf iv + 1).toNat)
        case atStart => exact ⟨bs.length, [], by omega, by simp, World.ownsRow_nil _ _ _ _, by show _ = _; simp, Keep.refl _⟩
        case round =>
          obtain ⟨k, os, hk, rfl, oo, hos, hkx⟩ := hrel
          have oo' := oo
          obtain ⟨ao, co, rfl, hco, ro⟩ := oo.shape
          by_cases hk0 : k = 0
          · subst hk0
            have hg : decide ((0 : Int) ≤ ((0 : Nat) : Int) - 1) = false := by simp
            have ho1 : os = bs.reverse := by have := hos.out; simpa using this
            have Hos : Hid (os = dec V) := by show _ = _; rw [ho1]; exact HD.out
            have hpos : 0 < os.length := by rw [ho1, ← hbe, rdig_pos HV0.out]; simp
            obtain ⟨g, rfl, -⟩ := ro 0 hpos
            have hcv : (convert 72 9 (.slice (some ⟨g, 0, none⟩) os.length co)).run Tryd.prog wr = .ok (.string (S8 os)) wr := by
              have := run_convert_bytes_arg (P := Tryd.prog) wr 72 5 Tryd.underlying72 Tryd.underlying5 g 0 os.length co (os.map (fun x : Nat => (x : Int))) (by simp) (fun i hi => by
                obtain ⟨g', e, hc⟩ := ro i hi
                simp only [Option.some.injEq, Addr.mk.injEq, and_true] at e
                rw [e, Nat.zero_add, hc]; simp [List.getD, hi]) 9 Tryd.underlying9
              rw [this]
              simp [strOfNums, S8]
            clear ho1 hos hbe
            go_wp2_with fail
            go_ret
            exact ⟨by rw [← Hos.out]; rfl, hkp.trans hkx⟩
          · obtain ⟨j, rfl⟩ : ∃ j, k = j + 1 := ⟨k - 1, by omega⟩
            have hji : ((j + 1 : Nat) : Int) - 1 = (j : Int) := by omega
            rw [hji]
            obtain ⟨gb, rfl, hcj⟩ := rb j (by omega)
            have hcj := hkx.cell hcj
            obtain ⟨z, hz⟩ : ∃ z, bs.getD j 0 = z := ⟨_, rfl⟩
            rw [hz] at hcj
            have Hn : Hid (os ++ [z] = (bs.drop j).reverse) := by
              show _ = _
              rw [drop_cons_getD bs j (by omega), List.reverse_cons, hz, hos.out]
            have hol : os.length < 35184372088832 := by rw [hos.out]; simp; omega
            clear hz hos
            go_wp2_with (at_builtin; refine wpList_app8 rfl _ _ rfl os _ rfl _ z ?_ rfl oo' hkx hol ?_; rotate_left; intro v' w1' hown' hk' _)
            go_roundw
            case rel => exact ⟨j, _, by omega, by go_num, hown', Hn, hk'⟩
            case measure => simp [intOf]
            all_goals (first | rfl | simp)
      · have hl0 : 0 < lx.length := List.length_pos_iff.2 h0
        have hx0 : 0 < val lx := val_pos nx h0
        have hkA : Keep wo (wo.alloc (Obj.cells #[Value.int IntKind.u32 1000000000] 62)) := (Keep.refl wo).alloc _
        have hcA : (wo.alloc (Obj.cells #[Value.int IntKind.u32 1000000000] 62)).cell? ⟨wo.heap.size, 0, none⟩ = some (.int .u32 1000000000) := by
          have h1 : (wo.alloc (Obj.cells #[Value.int IntKind.u32 1000000000] 62)).heap[wo.heap.size]? = some (Obj.cells #[Value.int IntKind.u32 1000000000] 62 (0, 0)) := heap_alloc_new wo _
          rw [cell_of_row _ _ 0 _ 62 (0, 0) h1]; rfl
        go_wp2_with fail
        generalize wo.alloc _ = w2 at hkA hcA ⊢
        have hrA : Rd w2 (some ⟨wo.heap.size, 0, none⟩) [1000000000] := by
          intro j hj
          obtain rfl : j = 0 := by simp at hj; omega
          exact ⟨_, _, rfl, hcA⟩
        have hD := rDivMod_any ax (some ⟨wo.heap.size, 0, none⟩) cx 1 lx [1000000000] w2 hcx (by simp) (by omega) (by simp) (rx.keep hkA) hrA mx (by intro z hz; simp at hz; omega) (by decide)
        rw [show val [1000000000] = 1000000000 from rfl] at hD
        refine hD.mono ?_
        rintro e w3 ⟨vq, vr, lq, lr, rfl, oq, or3, mq, nq, eq, mr, nr, er, k3⟩
        clear hD
        have oq' := oq
        obtain ⟨aq, cq, rfl, hcq, rq⟩ := oq.shape
        obtain ⟨ar, cr, rfl, hcr, rr⟩ := or3.shape
        have hr9 : val lr < 1000000000 := by rw [er]; exact Nat.mod_lt _ (by omega)
        have hlr : lr.length ≤ 1 := len_le_pow nr 1 (by omega)
        have hS := rSmall_any ar cr lr w3 hcr (by omega) rr mr
        have hsv : smallV lr = val lr := by
          unfold smallV
          rw [if_pos (by have := nl_le lr; omega)]
        rw [hsv] at hS
        have kA3 := hkA.trans k3
        have hqlt : val lq < val lx := by rw [eq]; omega
        have hlq : lq.length ≤ lx.length := val_len mx nq (by omega)
        have hsplit : val lx = val lq * 10 ^ 9 + val lr := by
          rw [eq, er, show (10 : Nat) ^ 9 = 1000000000 from rfl]; omega
        have Hsp : Hid (bk ++ rdig (val lq * 10 ^ 9 + val lr) = rdig V) := by show _ = _; rw [← hsplit]; exact hbk.out
        have hbkl : bk.length ≤ 10485760 := by
          have := congrArg List.length hbk.out
          rw [List.length_append] at this
          omega
        have HQ : Hid (val lq < val lx) := hqlt
        clear hsplit hsv er eq hbk
        go_wp2_with fail
        refine hS.mono ?_
        rintro e w4 ⟨rfl, k4⟩
        clear hS
        have k14 := kA3.trans k4
        have hk4 := hkp.trans k14
        have ob4 := ob'.keep k14
        have oq4 : Own w.heap.size w4 (.slice aq lq.length cq) lq := (oq'.keep k4).mono (hkp.trans hkA).le
        generalize smallB lr = sb
        generalize val lr = n0 at hr9 Hsp ⊢
        go_wp2_with fail
        go_loopw [4, 8, 10] (fun bv nv iv wr => ∃ (i n : Nat) (bj : List Nat), i ≤ 9 ∧ iv = .int .i64 i ∧ nv = .int .u64 n ∧ n ≤ 1000000000 ∧ Hid (n < 10 ^ (9 - i)) ∧ Own8 w.heap.size wr bv bj ∧ Hid (bj ++ rdig (val lq * 10 ^ (9 - i) + n) = rdig V) ∧ Own w.heap.size wr (.slice aq lq.length cq) lq ∧ Keep w wr) (fun _ _ iv _ => 9 - (intOf iv).toNat)
        case atStart => exact ⟨0, n0, bk, by omega, rfl, rfl, by omega, by show _ < _; exact hr9, ob4, Hsp, oq4, hk4⟩
        case round =>
          obtain ⟨i, n, bj, hi, rfl, rfl, hn9, hnl, obj, hbj, oqx, hkx⟩ := hrel
          have obj' := obj
          obtain ⟨abj, cbj, rfl, hcbj, rbj⟩ := obj.shape
          have hbjl : bj.length < 35184372088832 := by
            have := congrArg List.length hbj.out
            rw [List.length_append] at this
            omega
          by_cases hgo : i < 9 ∧ (0 < n ∨ 0 < lq.length)
          · obtain ⟨h9, hor⟩ := hgo
            obtain ⟨e, he⟩ : ∃ e, 9 - i = e + 1 := ⟨8 - i, by omega⟩
            have hpos : 0 < val lq * 10 ^ (9 - i) + n := by
              rcases hor with h | h
              · omega
              · have h1 := val_pos nq (List.length_pos_iff.1 h)
                have h2 : 0 < 10 ^ (9 - i) := Nat.pos_of_ne_zero (by simp)
                have := Nat.mul_pos h1 h2
                omega
            have Hb : Hid ((bj ++ [48 + n % 10]) ++ rdig (val lq * 10 ^ (9 - (i + 1)) + n / 10) = rdig V) := by
              show _ = _
              have h1 := hbj.out
              rw [he] at h1 hpos
              rw [rdig_step _ _ _ hpos] at h1
              rw [show 9 - (i + 1) = e by omega, List.append_assoc]
              exact h1
            have Hl : Hid (n / 10 < 10 ^ (9 - (i + 1))) := by
              show _ < _
              have h1 : n < 10 ^ (9 - i) := hnl
              rw [he, Nat.pow_succ] at h1
              rw [show 9 - (i + 1) = e by omega]
              omega
            have hg1 : decide ((i : Int) < 9) = true := by simp; omega
            have hwv : (48 + (n : Int) % 10) % 256 = ((48 + n % 10 : Nat) : Int) := by omega
            clear hbj hnl hpos he
            by_cases hn0 : 0 < n
            · have hg2 : decide ((0 : Int) < (n : Int)) = true := by simp; omega
              clear hor
              go_wp2_with (at_builtin; refine wpList_app8 rfl _ _ rfl bj _ rfl _ (48 + n % 10) ?_ rfl obj' hkx hbjl ?_; rotate_left; intro v' w1' hown' hk' hb62)
              go_roundw
              case rel => exact ⟨i + 1, n / 10, _, by omega, by go_num, by simp, by omega, Hl, hown', Hb, oqx.blocks hb62, hk'⟩
              case measure => simp [intOf]; omega
              all_goals (first | rfl | (simp; omega) | simp)
            · have hg2 : decide ((0 : Int) < (n : Int)) = false := by simp; omega
              have hg4 : 0 < lq.length := by omega
              have hg3 : decide ((0 : Int) < (lq.length : Int)) = true := decide_eq_true (by omega)
              clear hor
              go_wp2_with (at_builtin; refine wpList_app8 rfl _ _ rfl bj _ rfl _ (48 + n % 10) ?_ rfl obj' hkx hbjl ?_; rotate_left; intro v' w1' hown' hk' hb62)
              go_roundw
              case rel => exact ⟨i + 1, n / 10, _, by omega, by go_num, by simp, by omega, Hl, hown', Hb, oqx.blocks hb62, hk'⟩
              case measure => simp [intOf]; omega
              all_goals (first | rfl | (simp; omega) | simp)
          · have hend : val lq * 10 ^ (9 - i) + n = val lq := by
              by_cases h9 : i = 9
              · subst h9
                have : n < 10 ^ (9 - 9) := hnl
                simp at this
                simp; omega
              · have hn0 : n = 0 := by omega
                have hq0 : lq = [] := List.eq_nil_of_length_eq_zero (by omega)
                subst hq0
                rw [hn0]; simp [val]
            have Hb : Hid (bj ++ rdig (val lq) = rdig V) := by show _ = _; rw [← hend]; exact hbj.out
            obtain ⟨aq2, cq2, eq2, hcq2, rq2⟩ := oqx.shape
            simp only [Value.slice.injEq, true_and] at eq2
            obtain ⟨rfl, rfl⟩ := eq2
            have hms2 := limbsAt_eq (c := cq) rq2
            have HM : Hid (limbsAt wr (.slice aq lq.length cq) < limbsAt wo (.slice ax lx.length cx)) := by show _ < _; rw [hms2, hms]; exact HQ.out
            clear hend hbj hnl hms hms2
            by_cases h9 : i < 9
            · have hg1 : decide ((i : Int) < 9) = true := by simp; omega
              have hg2 : decide ((0 : Int) < (n : Int)) = false := by simp; omega
              have hg4 : lq.length = 0 := by omega
              have hg3 : decide ((0 : Int) < (lq.length : Int)) = false := decide_eq_false (by omega)
              have oq0 : Own w.heap.size wr (.slice aq 0 cq) lq := by have := oqx; rw [hg4] at this; exact this
              have HM0 : Hid (limbsAt wr (.slice aq 0 cq) < limbsAt wo (.slice ax lx.length cx)) := by have := HM.out; rw [hg4] at this; exact this
              go_wp2_with fail
              go_roundw
              case rel => exact ⟨lq, bj, oq0, mq, nq, by omega, obj', Hb, hkx⟩
              case measure => exact HM0.out
            · have hg1 : decide ((i : Int) < 9) = false := by simp; omega
              go_wp2_with fail
              go_roundw
              case rel => exact ⟨lq, bj, oqx, mq, nq, by omega, obj', Hb, hkx⟩
              case measure => exact HM.out
end Go.Proofs.YtbjidpooociamaaDoor
