import Derived.Test.YtpdjpjkieafnbaaGreatDoorBK2
import Derived.Test.YtpdjpjkieafnbaaGreatDoorNSC
import Derived.Test.YtpdjpjkieafnbaaGreatDoorBC2
import Derived.Laws.Slices
import Derived.Laws.IdiomStrings
set_option linter.unusedVariables false
set_option linter.unusedSimpArgs false
namespace Go.Proofs.YtpdjpjkieafnbaaGreatDoor.Li
open Go.RowKit Lb Nr
set_option maxRecDepth 100000 in
set_option maxHeartbeats 800000 in
theorem shortest_named (b : Nat) (w : World) (hb : b < 18446744073709551616) (hk : pKind b = 0 ∨ pKind b = 3 ∨ pKind b = 4) :
    Calls Tryz.prog 57 #[.agg #[.int .i64 52, .int .i64 2047, .int .i64 (-1074)], .int .u64 (b : Int)] w fun e w' => e = .returned (.string ⟨(exS b).toArray⟩) ∧ Keep w w' := by
  have hP := fun wx => parts_any b hb wx
  unfold exS
  generalize pM b = m at *
  generalize pE b = e at *
  generalize pNeg b = ng at *
  obtain ⟨w1, hw1⟩ : ∃ w1, w.alloc (.cells #[.int .i64 52, .int .i64 2047, .int .i64 (-1074)] 85) = w1 := ⟨_, rfl⟩
  have k1 : Keep w w1 := by rw [← hw1]; exact (Keep.refl w).alloc _
  have F1 : Fm w1 w.heap.size := by rw [← hw1]; exact Fm.new w
  obtain ⟨f0, f1, f2⟩ := F1.cells
  have HF1 : Hid (Fm w1 w.heap.size) := F1
  clear F1
  rcases hk with hk | hk | hk
  · rw [hk, if_neg (by omega)]
    have hN := fun wx => named_any 0 (by omega) wx
    have e0 : nmS 0 = [48] := rfl
    rw [e0] at hN
    rw [e0]
    have hS := fun wx => signedF_any ng 0 [48] (by omega) (by simp) wx
    obtain ⟨Y, hY⟩ : ∃ Y, sgS ng [48] = Y := ⟨_, rfl⟩
    rw [hY] at hS
    rw [hY]
    rw [hk] at hP
    clear hk hY e0
    go_enter Tryz.func57, Tryz.ntmps57
    go_wp2_with fail
    refine (hP _).mono ?_
    rintro r w2 ⟨rfl, k2⟩
    go_wp2_with fail
    refine (hN _).mono ?_
    rintro r w3 ⟨rfl, hz⟩
    subst hz
    go_wp2_with fail
    refine (hS _).mono ?_
    rintro r w4 ⟨rfl, hz⟩
    subst hz
    go_wp2_with fail
    go_ret
    exact ⟨rfl, k1.trans k2⟩
  · rw [hk, if_neg (by omega)]
    have hN := fun wx => named_any 3 (by omega) wx
    have e0 : nmS 3 = [105, 110, 102] := rfl
    rw [e0] at hN
    rw [e0]
    have hS := fun wx => signedF_any ng 3 [105, 110, 102] (by omega) (by simp) wx
    obtain ⟨Y, hY⟩ : ∃ Y, sgS ng [105, 110, 102] = Y := ⟨_, rfl⟩
    rw [hY] at hS
    rw [hY]
    rw [hk] at hP
    clear hk hY e0
    go_enter Tryz.func57, Tryz.ntmps57
    go_wp2_with fail
    refine (hP _).mono ?_
    rintro r w2 ⟨rfl, k2⟩
    go_wp2_with fail
    refine (hN _).mono ?_
    rintro r w3 ⟨rfl, hz⟩
    subst hz
    go_wp2_with fail
    refine (hS _).mono ?_
    rintro r w4 ⟨rfl, hz⟩
    subst hz
    go_wp2_with fail
    go_ret
    exact ⟨rfl, k1.trans k2⟩
  · rw [hk, if_pos rfl]
    have hN := fun wx => named_any 4 (by omega) wx
    have e0 : nmS 4 = [110, 97, 110] := rfl
    rw [e0] at hN
    have hS := fun wx => signedF_nan ng ⟨#[110, 97, 110]⟩ wx
    rw [hk] at hP
    clear hk e0
    go_enter Tryz.func57, Tryz.ntmps57
    go_wp2_with fail
    refine (hP _).mono ?_
    rintro r w2 ⟨rfl, k2⟩
    go_wp2_with fail
    refine (hN _).mono ?_
    rintro r w3 ⟨rfl, hz⟩
    subst hz
    go_wp2_with fail
    refine (hS _).mono ?_
    rintro r w4 ⟨rfl, hz⟩
    subst hz
    go_wp2_with fail
    go_ret
    exact ⟨rfl, k1.trans k2⟩
/-- These are read back, too. -/
theorem rb_named {b : Nat} (hb : b < 18446744073709551616) (hk : pKind b = 0 ∨ pKind b = 3 ∨ pKind b = 4) : RB (exS b) b := by
  have hin : ∀ (s : List UInt8) (x : Nat), FR s x 0 0 → ∀ w, Calls Tryz.prog 12 #[.string ⟨s.toArray⟩] w fun e w' => e = .returned (.tuple #[.float .f64 x, .int .i64 0, .int .i64 0]) ∧ Keep w w' := by
    intro s x hF w
    refine (Read_all s w).mono ?_
    rintro r w' ⟨y, e, a, rfl, hG, k⟩
    obtain ⟨h1, h2, h3⟩ := hG.oneB hF
    rw [h1, h2, h3]
    exact ⟨rfl, k⟩
  rcases hk with hk | hk | hk
  · have hs : exS b = dtx (pNeg b) [48] [] [] := by unfold exS; rw [hk, if_neg (by omega)]; unfold sgS dtx; simp [nmS]
    have hz : b % 9223372036854775808 = 0 := by
      unfold pKind pField pKept at hk
      repeat' split at hk
      all_goals omega
    have hab := amount_of hb
    rw [hz, Nat.zero_add] at hab
    rw [hs]
    intro w
    have hl : (dtx (pNeg b) [48] [] []).length ≤ 4096 := by unfold dtx; cases pNeg b <;> simp
    refine (Read_txtP (pNeg b) [48] [] [] 0 (fun c hc => by simp at hc; rw [hc]; decide) (by simp) (fun c hc => by simp at hc) (.inl ⟨rfl, rfl⟩) hl w).mono ?_
    rintro e w' ⟨y, rfl, hy, k⟩
    have hy0 : y = 0 := hy.1 (by rw [show nat ([48] ++ []) = 0 by decide, Nat.zero_mul])
    refine ⟨_, rfl, fun q => ?_, fun _ => ?_, k⟩
    · exfalso
      have q' : 9218868437227405312 < b % 9223372036854775808 := q
      omega
    · rw [hy0, Nat.zero_add]; exact hab.symm
  · have hz : b % 9223372036854775808 = 9218868437227405312 := by
      unfold pKind pField pKept at hk
      repeat' split at hk
      all_goals omega
    have hnn : ¬ Fo.isNaN b := by show ¬ 9218868437227405312 < b % 9223372036854775808; omega
    have hab := amount_of hb
    rw [hz] at hab
    have hs : exS b = sgS (pNeg b) [105, 110, 102] := by unfold exS; rw [hk, if_neg (by omega)]; rfl
    rw [hs]
    intro w
    cases hn : pNeg b with
    | false =>
      have hb2 : 9218868437227405312 = b := by rw [hab, hn]; rfl
      refine (hin [105, 110, 102] b (by rw [← hb2]; exact .inr ⟨by simp, .inr (.inl ⟨rfl, rfl, rfl, rfl⟩)⟩) w).mono ?_
      rintro e w' ⟨rfl, k⟩
      exact ⟨b, rfl, fun q => q, fun _ => rfl, k⟩
    | true =>
      have hb2 : 18442240474082181120 = b := by rw [hab, hn]; rfl
      refine (hin [45, 105, 110, 102] b (by rw [← hb2]; exact .inr ⟨by simp, .inr (.inr (.inl ⟨rfl, rfl, rfl, rfl⟩))⟩) w).mono ?_
      rintro e w' ⟨rfl, k⟩
      exact ⟨b, rfl, fun q => q, fun _ => rfl, k⟩
  · have hs : exS b = [110, 97, 110] := by unfold exS; rw [if_pos hk]
    have hnn : Fo.isNaN b := by
      show 9218868437227405312 < b % 9223372036854775808
      unfold pKind pField pKept at hk
      repeat' split at hk
      all_goals omega
    rw [hs]
    intro w
    refine (hin [110, 97, 110] 9221120237041090560 (.inr ⟨by simp, .inl ⟨rfl, rfl, rfl, rfl⟩⟩) w).mono ?_
    rintro e w' ⟨rfl, k⟩
    exact ⟨_, rfl, fun _ => by show 9218868437227405312 < 9221120237041090560 % 9223372036854775808; omega, fun q => absurd hnn q, k⟩
end Go.Proofs.YtpdjpjkieafnbaaGreatDoor.Li
namespace Go.Proofs.YtpdjpjkieafnbaaGreatDoor.Li.Nw
open Go.RowKit Lb Nr
def exS (b : Nat) : List UInt8 := if pKind b = 4 then [110, 97, 110] else sgS (pNeg b) (nmS (pKind b))
set_option maxRecDepth 100000 in
set_option maxHeartbeats 800000 in
theorem shortest_named (b : Nat) (w : World) (hb : b < 4294967296) (hk : pKind b = 0 ∨ pKind b = 3 ∨ pKind b = 4) :
    Calls Tryz.prog 57 #[.agg #[.int .i64 23, .int .i64 255, .int .i64 (-149)], .int .u64 (b : Int)] w fun e w' => e = .returned (.string ⟨(exS b).toArray⟩) ∧ Keep w w' := by
  have hP := fun wx => parts_any b hb wx
  unfold exS
  generalize pM b = m at *
  generalize pE b = e at *
  generalize pNeg b = ng at *
  obtain ⟨w1, hw1⟩ : ∃ w1, w.alloc (.cells #[.int .i64 23, .int .i64 255, .int .i64 (-149)] 85) = w1 := ⟨_, rfl⟩
  have k1 : Keep w w1 := by rw [← hw1]; exact (Keep.refl w).alloc _
  have F1 : Fm w1 w.heap.size := by rw [← hw1]; exact Fm.new w
  obtain ⟨f0, f1, f2⟩ := F1.cells
  have HF1 : Hid (Fm w1 w.heap.size) := F1
  clear F1
  rcases hk with hk | hk | hk
  · rw [hk, if_neg (by omega)]
    have hN := fun wx => named_any 0 (by omega) wx
    have e0 : nmS 0 = [48] := rfl
    rw [e0] at hN
    rw [e0]
    have hS := fun wx => signedF_any ng 0 [48] (by omega) (by simp) wx
    obtain ⟨Y, hY⟩ : ∃ Y, sgS ng [48] = Y := ⟨_, rfl⟩
    rw [hY] at hS
    rw [hY]
    rw [hk] at hP
    clear hk hY e0
    go_enter Tryz.func57, Tryz.ntmps57
    go_wp2_with fail
    refine (hP _).mono ?_
    rintro r w2 ⟨rfl, k2⟩
    go_wp2_with fail
    refine (hN _).mono ?_
    rintro r w3 ⟨rfl, hz⟩
    subst hz
    go_wp2_with fail
    refine (hS _).mono ?_
    rintro r w4 ⟨rfl, hz⟩
    subst hz
    go_wp2_with fail
    go_ret
    exact ⟨rfl, k1.trans k2⟩
  · rw [hk, if_neg (by omega)]
    have hN := fun wx => named_any 3 (by omega) wx
    have e0 : nmS 3 = [105, 110, 102] := rfl
    rw [e0] at hN
    rw [e0]
    have hS := fun wx => signedF_any ng 3 [105, 110, 102] (by omega) (by simp) wx
    obtain ⟨Y, hY⟩ : ∃ Y, sgS ng [105, 110, 102] = Y := ⟨_, rfl⟩
    rw [hY] at hS
    rw [hY]
    rw [hk] at hP
    clear hk hY e0
    go_enter Tryz.func57, Tryz.ntmps57
    go_wp2_with fail
    refine (hP _).mono ?_
    rintro r w2 ⟨rfl, k2⟩
    go_wp2_with fail
    refine (hN _).mono ?_
    rintro r w3 ⟨rfl, hz⟩
    subst hz
    go_wp2_with fail
    refine (hS _).mono ?_
    rintro r w4 ⟨rfl, hz⟩
    subst hz
    go_wp2_with fail
    go_ret
    exact ⟨rfl, k1.trans k2⟩
  · rw [hk, if_pos rfl]
    have hN := fun wx => named_any 4 (by omega) wx
    have e0 : nmS 4 = [110, 97, 110] := rfl
    rw [e0] at hN
    have hS := fun wx => signedF_nan ng ⟨#[110, 97, 110]⟩ wx
    rw [hk] at hP
    clear hk e0
    go_enter Tryz.func57, Tryz.ntmps57
    go_wp2_with fail
    refine (hP _).mono ?_
    rintro r w2 ⟨rfl, k2⟩
    go_wp2_with fail
    refine (hN _).mono ?_
    rintro r w3 ⟨rfl, hz⟩
    subst hz
    go_wp2_with fail
    refine (hS _).mono ?_
    rintro r w4 ⟨rfl, hz⟩
    subst hz
    go_wp2_with fail
    go_ret
    exact ⟨rfl, k1.trans k2⟩
/-- These are read back, too. -/
theorem rb_named {b : Nat} (hb : b < 4294967296) (hk : pKind b = 0 ∨ pKind b = 3 ∨ pKind b = 4) : RB (exS b) b := by
  have hin : ∀ (s : List UInt8) (x : Nat), FR s x 0 0 → ∀ w, Calls Tryz.prog 16 #[.string ⟨s.toArray⟩] w fun e w' => e = .returned (.tuple #[.float .f32 x, .int .i64 0, .int .i64 0]) ∧ Keep w w' := by
    intro s x hF w
    refine (Read_all s w).mono ?_
    rintro r w' ⟨y, e, a, rfl, hG, k⟩
    obtain ⟨h1, h2, h3⟩ := hG.oneB hF
    rw [h1, h2, h3]
    exact ⟨rfl, k⟩
  rcases hk with hk | hk | hk
  · have hs : exS b = dtx (pNeg b) [48] [] [] := by unfold exS; rw [hk, if_neg (by omega)]; unfold sgS dtx; simp [nmS]
    have hz : b % 2147483648 = 0 := by
      unfold pKind pField pKept at hk
      repeat' split at hk
      all_goals omega
    have hab := amount_of hb
    rw [hz, Nat.zero_add] at hab
    rw [hs]
    intro w
    have hl : (dtx (pNeg b) [48] [] []).length ≤ 4096 := by unfold dtx; cases pNeg b <;> simp
    refine (Read_txtP (pNeg b) [48] [] [] 0 (fun c hc => by simp at hc; rw [hc]; decide) (by simp) (fun c hc => by simp at hc) (.inl ⟨rfl, rfl⟩) hl w).mono ?_
    rintro e w' ⟨y, rfl, hy, k⟩
    have hy0 : y = 0 := hy.1 (by rw [show nat ([48] ++ []) = 0 by decide, Nat.zero_mul])
    refine ⟨_, rfl, fun q => ?_, fun _ => ?_, k⟩
    · exfalso
      have q' : 2139095040 < b % 2147483648 := q
      omega
    · rw [hy0, Nat.zero_add]; exact hab.symm
  · have hz : b % 2147483648 = 2139095040 := by
      unfold pKind pField pKept at hk
      repeat' split at hk
      all_goals omega
    have hnn : ¬ Fs.isNaN b := by show ¬ 2139095040 < b % 2147483648; omega
    have hab := amount_of hb
    rw [hz] at hab
    have hs : exS b = sgS (pNeg b) [105, 110, 102] := by unfold exS; rw [hk, if_neg (by omega)]; rfl
    rw [hs]
    intro w
    cases hn : pNeg b with
    | false =>
      have hb2 : 2139095040 = b := by rw [hab, hn]; rfl
      refine (hin [105, 110, 102] b (by rw [← hb2]; exact .inr ⟨by simp, .inr (.inl ⟨rfl, rfl, rfl, rfl⟩)⟩) w).mono ?_
      rintro e w' ⟨rfl, k⟩
      exact ⟨b, rfl, fun q => q, fun _ => rfl, k⟩
    | true =>
      have hb2 : 4286578688 = b := by rw [hab, hn]; rfl
      refine (hin [45, 105, 110, 102] b (by rw [← hb2]; exact .inr ⟨by simp, .inr (.inr (.inl ⟨rfl, rfl, rfl, rfl⟩))⟩) w).mono ?_
      rintro e w' ⟨rfl, k⟩
      exact ⟨b, rfl, fun q => q, fun _ => rfl, k⟩
  · have hs : exS b = [110, 97, 110] := by unfold exS; rw [if_pos hk]
    have hnn : Fs.isNaN b := by
      show 2139095040 < b % 2147483648
      unfold pKind pField pKept at hk
      repeat' split at hk
      all_goals omega
    rw [hs]
    intro w
    refine (hin [110, 97, 110] 2143289344 (.inr ⟨by simp, .inl ⟨rfl, rfl, rfl, rfl⟩⟩) w).mono ?_
    rintro e w' ⟨rfl, k⟩
    exact ⟨_, rfl, fun _ => by show 2139095040 < 2143289344 % 2147483648; omega, fun q => absurd hnn q, k⟩
end Go.Proofs.YtpdjpjkieafnbaaGreatDoor.Li.Nw
set_option linter.unusedVariables false
set_option linter.unusedSimpArgs false
namespace Go.Proofs.YtpdjpjkieafnbaaGreatDoor.Li
open Go.RowKit Lb Nr
set_option maxRecDepth 100000 in
theorem pow2_16 (w : World) : Calls Tryz.prog 191 #[.int .i64 16] w fun e w' => e = .returned (.bool true) ∧ w = w' := by
  go_enter Tryz.func191, Tryz.ntmps191
  go_wp2_with fail
  go_ret
  exact ⟨rfl, rfl⟩
set_option maxRecDepth 100000 in
theorem tz_16 (w : World) (hT : Bi.Tab w) : Calls Tryz.prog 192 #[.int .u64 16] w fun e w' => e = .returned (.int .i64 4) ∧ w = w' := by
  have h := Bi.tz_any 16 (by omega) (by omega) w hT
  rw [show Lib.ctz 64 16 = 4 by decide +kernel] at h
  go_enter Tryz.func192, Tryz.ntmps192
  go_wp2_with (go_at_call 105; refine h.mono ?_; rintro e w2 ⟨rfl, rfl⟩)
  go_ret
  exact ⟨rfl, rfl⟩
/-- Hexadecimal digits. -/
def hd (d : Nat) : UInt8 := UInt8.ofNat (if d < 10 then 48 + d else 87 + d)
def hxD (n : Nat) : List UInt8 := if h : n < 16 then [hd n] else hxD (n / 16) ++ [hd (n % 16)]
termination_by n
decreasing_by omega
theorem hxD_small {n : Nat} (h : n < 16) : hxD n = [hd n] := by rw [hxD, dif_pos h]
theorem hxD_step {n : Nat} (h : ¬ n < 16) : hxD n = hxD (n / 16) ++ [hd (n % 16)] := by rw [hxD, dif_neg h]
/-- The end of an array of bytes. -/
def Ar (w : World) (g i : Nat) (t : List UInt8) : Prop := ∃ cur, w.heap[g]? = some (.cells cur 221 (0, 0)) ∧ cur.size = 65 ∧ i + t.length = 65 ∧ cur.toList.drop i = t.map (fun b : UInt8 => Value.int .u8 (b.toNat : Int))
theorem Ar.at {w : World} {g i : Nat} {t : List UInt8} (h : Ar w g i t) (k : Nat) (hk : k < 65) : (∃ v, w.cell? ⟨g, k, none⟩ = some v) ∧ w.frozen? ⟨g, k, none⟩ = false := by
  obtain ⟨cur, hh, hs, -, -⟩ := h
  refine ⟨⟨cur[k]'(by omega), ?_⟩, frozen_of_row w g k _ 221 hh⟩
  rw [cell_of_row w g k _ 221 (0, 0) hh]
  exact Array.getElem?_eq_getElem (by omega)
theorem Ar.put {w : World} {g k : Nat} {t : List UInt8} (h : Ar w g (k + 1) t) (c : UInt8) : Ar (w.setCell ⟨g, k, none⟩ (.int .u8 (c.toNat : Int))) g k (c :: t) := by
  obtain ⟨cur, hh, hs, hl, hd⟩ := h
  refine ⟨_, heap_setCell_same w g k _ 221 _ hh, by simpa using hs, by rw [List.length_cons]; omega, ?_⟩
  rw [Array.toList_setIfInBounds, List.map_cons]
  have hk : k < (cur.toList.set k (Value.int .u8 (c.toNat : Int))).length := by simp; omega
  rw [List.drop_eq_getElem_cons hk, List.getElem_set_self]
  congr 1
  rw [List.drop_set_of_lt (by omega)]
  exact hd
theorem Ar.get {w : World} {g i : Nat} {t : List UInt8} (h : Ar w g i t) (j : Nat) (hj : j < t.length) : w.cell? ⟨g, i + j, none⟩ = some (.int .u8 ((t[j]'hj).toNat : Int)) := by
  obtain ⟨cur, hh, hs, hl, hd⟩ := h
  rw [cell_of_row w g (i + j) _ 221 (0, 0) hh, ← Array.getElem?_toList, ← List.getElem?_drop, hd]
  simp [hj]
set_option maxRecDepth 100000 in
theorem hd_ix (d : Nat) (h : d < 16) (w : World) : (Instr.index 9 (.string ⟨#[48, 49, 50, 51, 52, 53, 54, 55, 56, 57, 97, 98, 99, 100, 101, 102, 103, 104, 105, 106, 107, 108, 109, 110, 111, 112, 113, 114, 115, 116, 117, 118, 119, 120, 121, 122]⟩) (.int .u64 (d : Int))).run Tryz.prog w = .ok (.int .u8 ((hd d).toNat : Int)) w := by
  have key : d = 0 ∨ d = 1 ∨ d = 2 ∨ d = 3 ∨ d = 4 ∨ d = 5 ∨ d = 6 ∨ d = 7 ∨ d = 8 ∨ d = 9 ∨ d = 10 ∨ d = 11 ∨ d = 12 ∨ d = 13 ∨ d = 14 ∨ d = 15 := by omega
  rcases key with rfl | rfl | rfl | rfl | rfl | rfl | rfl | rfl | rfl | rfl | rfl | rfl | rfl | rfl | rfl | rfl
  all_goals rfl
theorem and15 (v : Nat) (hv : v < 18446744073709551616) : bits .and .u64 (v : Int) 15 = ((v % 16 : Nat) : Int) := by
  have := u64_and_nat v 15 hv (by omega)
  rw [show v &&& 15 = v % 16 from Nat.and_two_pow_sub_one_eq_mod v 4] at this
  exact this
theorem hxD_len (k : Nat) : ∀ n, n < 16 ^ (k + 1) → (hxD n).length ≤ k + 1 := by
  induction k with
  | zero => intro n h; rw [hxD_small (by simpa using h)]; simp
  | succ k ih =>
    intro n h
    by_cases q : n < 16
    · rw [hxD_small q]; simp
    · rw [hxD_step q, List.length_append]
      have h1 : n / 16 < 16 ^ (k + 1) := by
        rw [Nat.div_lt_iff_lt_mul (by omega), ← Nat.pow_succ]
        exact h
      have := ih _ h1
      simp
      omega
theorem hxD_16 {n : Nat} (h : n < 18446744073709551616) : (hxD n).length ≤ 16 := hxD_len 15 n (by rw [show (16 : Nat) ^ (15 + 1) = 18446744073709551616 by decide]; exact h)
set_option maxRecDepth 100000 in
set_option maxHeartbeats 1000000 in
theorem formatBits_16 (u : Nat) (w : World) (hu : u < 18446744073709551616) (hT : ∀ wx, Keep w wx → Bi.Tab wx) :
    Calls Tryz.prog 176 #[.slice none 0 0, .int .u64 (u : Int), .int .i64 16, .bool false, .bool false] w fun e w' => e = .returned (.tuple #[.slice none 0 0, .string ⟨(hxD u).toArray⟩]) ∧ Keep w w' := by
  have hLen : Hid ((hxD u).length ≤ 16) := hxD_16 hu
  go_enter Tryz.func176, Tryz.ntmps176
  go_wp2_with (first
    | (go_at_call 191; refine (pow2_16 _).mono ?_; rintro e w2 ⟨rfl, rfl⟩)
    | (go_at_call 192; refine (tz_16 _ (hT _ ((Keep.refl w).alloc _))).mono ?_; rintro e w3 ⟨rfl, rfl⟩))
  go_loopg [1, 13] (u) (fun g v1 v13 wx => ∃ (i : Nat) (t : List UInt8), v1 = .int .u64 (g : Int) ∧ v13 = .int .i64 (i : Int) ∧ g < 18446744073709551616 ∧ Hid (hxD g ++ t = hxD u) ∧ Ar wx w.heap.size i t ∧ Keep w wx)
  case atStart => exact ⟨65, [], rfl, rfl, hu, by unfold Hid; rw [List.append_nil], ⟨_, heap_alloc_new w _, rfl, rfl, rfl⟩, (Keep.refl w).alloc _⟩
  case round =>
    obtain ⟨i, t, rfl, rfl, hg, ht, hA, hkp⟩ := hrel
    have htl : t.length ≤ 15 := by
      have h1 := congrArg List.length ht.out
      rw [List.length_append] at h1
      have h2 := hLen.out
      have h3 : 0 < (hxD gk).length := by
        by_cases c : gk < 16
        · rw [hxD_small c]; simp
        · rw [hxD_step c]; simp
      omega
    obtain ⟨k, rfl⟩ : ∃ k, i = k + 1 := by
      obtain ⟨cur, -, -, hl, -⟩ := hA
      exact ⟨i - 1, by omega⟩
    have hk65 : k < 65 := by
      obtain ⟨cur, -, -, hl, -⟩ := hA
      omega
    obtain ⟨⟨cv, hcv⟩, hfz⟩ := hA.at k hk65
    have hidx : ((k + 1 : Nat) : Int) - 1 = (k : Int) := by omega
    have HA : Hid (Ar wr w.heap.size (k + 1) t) := hA
    have HK : Hid (Keep w wr) := hkp
    have hkI : (0 : Int) ≤ (k : Int) ∧ (k : Int) < 65 := by omega
    by_cases c : gk < 16
    · have hix := fun wx => hd_ix gk c wx
      have c1 : decide (16 ≤ gk) = false := decide_eq_false (by omega)
      have HT : Hid (hd gk :: t = hxD u) := by unfold Hid; rw [← ht.out, hxD_small c]; rfl
      generalize hd gk = ch at *
      clear hA hkp ht htl
      have hal : Tryz.prog.arrayLen 221 = 65 := by simp [Program.arrayLen, Tryz.underlying221]
      have hsl : ∀ W, (Instr.sliceAt 221 (.pointer (some ⟨w.heap.size, 0, none⟩)) (some (.int .i64 (k : Int))) none none).run Tryz.prog W = .ok (.slice (some ⟨w.heap.size, k, none⟩) (65 - k) (65 - k)) W := fun W => by
        rw [run_sliceAt_array_l W 221 ⟨w.heap.size, 0, none⟩ (by simp [Program.arrayLen, Program.elem, Tryz.underlying221]) .i64 (k : Int) (by omega) (by rw [hal]; omega)]
        go_simp
        intro q
        omega
      have hA2 := HA.out.put ch
      have hlen2 : (ch :: t).length = 65 - k := by obtain ⟨cur, -, -, hl, -⟩ := hA2; omega
      obtain ⟨w5, hw5⟩ : ∃ w5, wr.setCell ⟨w.heap.size, k, none⟩ (.int .u8 (ch.toNat : Int)) = w5 := ⟨_, rfl⟩
      rw [hw5] at hA2
      have HK5 : Hid (Keep w w5) := by rw [← hw5]; exact HK.out.setCell (Nat.le_refl _) _
      have hcv : (convert 61 9 (.slice (some ⟨w.heap.size, k, none⟩) (65 - k) (65 - k))).run Tryz.prog w5 = .ok (.string ⟨(hxD u).toArray⟩) w5 := by
        have h := run_convert_bytes_back (P := Tryz.prog) w5 61 9 5 ⟨w.heap.size, k, none⟩ (65 - k) (ch :: t) Tryz.underlying61 Tryz.underlying5 Tryz.underlying9 (fun j hj => by
          rw [Lib.add_plain]
          exact hA2.get j hj)
        rw [hlen2, HT.out] at h
        exact h
      clear hA2 hlen2 hal
      go_wp2_with fail
      all_goals go_ret2
      all_goals exact ⟨rfl, HK5.out⟩
    · have hix := fun wx => hd_ix (gk % 16) (Nat.mod_lt _ (by omega)) wx
      have hand := and15 gk hg
      have c1 : decide (16 ≤ gk) = true := decide_eq_true (by omega)
      have HT : Hid (hxD (gk / 16) ++ (hd (gk % 16) :: t) = hxD u) := by unfold Hid; rw [← ht.out, hxD_step c, List.append_assoc]; rfl
      have hdv : Hid (gk / 16 < 18446744073709551616 ∧ gk / 16 < gk) := ⟨by omega, by omega⟩
      generalize gk % 16 = dd at *
      generalize hd dd = ch at *
      clear hA hkp ht htl
      go_wp2_with fail
      go_roundg (gk / 16)
      case measure => exact hdv.out.2
      case rel => exact ⟨k, ch :: t, by simp, rfl, hdv.out.1, HT, HA.out.put ch, HK.out.setCell (Nat.le_refl _) _⟩
end Go.Proofs.YtpdjpjkieafnbaaGreatDoor.Li
set_option linter.unusedVariables false
set_option linter.unusedSimpArgs false
namespace Go.Proofs.YtpdjpjkieafnbaaGreatDoor.Li
open Go.RowKit Lb Nr
set_option maxRecDepth 100000 in
theorem FU_16 (u : Nat) (w : World) (hu : u < 18446744073709551616) (hT : ∀ wx, Keep w wx → Bi.Tab wx) :
    Calls Tryz.prog 101 #[.int .u64 (u : Int), .int .i64 16] w fun e w' => e = .returned (.string ⟨(hxD u).toArray⟩) ∧ Keep w w' := by
  have h0 := formatBits_16 u w hu hT
  have h : Calls Tryz.prog 146 #[.int .u64 (u : Int), .int .i64 16] w fun e w' => e = .returned (.string ⟨(hxD u).toArray⟩) ∧ Keep w w' := by
    generalize hxD u = l at h0 ⊢
    go_enter Tryz.func146, Tryz.ntmps146
    go_wp2_with (go_at_call 176; refine h0.mono ?_; rintro e w2 ⟨rfl, k2⟩)
    go_ret
    exact ⟨rfl, k2⟩
  generalize hxD u = l at h ⊢
  go_enter Tryz.func101, Tryz.ntmps101
  go_wp2_with (go_at_call 146; refine h.mono ?_; rintro e w2 ⟨rfl, k2⟩)
  go_ret
  exact ⟨rfl, k2⟩
/-- A number's hexadecimal text. -/
def hxT (m : Nat) (e : Int) : List UInt8 := [48, 120] ++ dD (m / 4503599627370496) ++ ((if m % 4503599627370496 = 0 then [] else 46 :: Lib.trimRightB ((hxD (4503599627370496 + m % 4503599627370496)).drop 1) 48) ++ (112 :: wsT (e + 52)))
set_option maxRecDepth 100000 in
set_option maxHeartbeats 1000000 in
theorem hexDigits_any (m : Nat) (e : Int) (w : World) (hm : m < 9007199254740992) (he : -2000 ≤ e ∧ e ≤ 2000) (hT : ∀ wx, Keep w wx → Bi.Tab wx) (hP : ∀ wx, Keep w wx → Lib.TabIs Tryz.prog wx "internal/strconv.uint64pow10" .u64 Lib.pow10Tab) :
    Calls Tryz.prog 67 #[.int .u64 (m : Int), .int .i64 e] w fun r w' => r = .returned (.string ⟨(hxT m e).toArray⟩) ∧ Keep w w' := by
  have hb := fun wx => binary64_any wx
  have htop : m / 4503599627370496 < 100 := by omega
  have hF := fun wx => FU_few (m / 4503599627370496) wx htop
  rw [decDigits_dD _ _ (Nat.le_refl _)] at hF
  have hkp : m % 4503599627370496 < 4503599627370496 := Nat.mod_lt _ (by omega)
  have hand : bits .and .u64 (m : Int) 4503599627370495 = ((m % 4503599627370496 : Nat) : Int) := and52 m (by omega)
  have hor := or52 (m % 4503599627370496) hkp
  have hG := fun wx (k : Keep w wx) => FU_16 (4503599627370496 + m % 4503599627370496) wx (by omega) (fun wy ky => hT wy (k.trans ky))
  have hW := fun wx (k : Keep w wx) => withSign_any (e + 52) wx (by omega) (hP wx k)
  have hx16 : (hxD (4503599627370496 + m % 4503599627370496)).length ≤ 16 := hxD_16 (by omega)
  have hwl := wsT_len (e + 52) (by omega)
  have htl : (dD (m / 4503599627370496)).length ≤ 5 := dD_few (by omega)
  have hdiv : ((m : Int) / 4503599627370496) = ((m / 4503599627370496 : Nat) : Int) := by omega
  have we : IntKind.i64.wrap (e + 52) = e + 52 := by rw [IntWalk.i64_left]; exact IntWalk.wrap64_in _ (by omega)
  have HD : Hid (hxT m e = [48, 120] ++ dD (m / 4503599627370496) ++ ((if m % 4503599627370496 = 0 then [] else 46 :: Lib.trimRightB ((hxD (4503599627370496 + m % 4503599627370496)).drop 1) 48) ++ (112 :: wsT (e + 52)))) := rfl
  generalize hws : wsT (e + 52) = ws at *
  generalize hdt : dD (m / 4503599627370496) = dt at *
  generalize hxd : hxD (4503599627370496 + m % 4503599627370496) = D1 at *
  generalize m / 4503599627370496 = tp at *
  generalize 4503599627370496 + m % 4503599627370496 = m2 at *
  have hw : (ByteArray.mk ws.toArray).size = ws.length := sz_mk ws
  have hd : (ByteArray.mk dt.toArray).size = dt.length := sz_mk dt
  obtain ⟨A1, hA1⟩ : ∃ A, [48, 120] ++ dt = A := ⟨_, rfl⟩
  have hc1 : ByteArray.mk #[48, 120] ++ ByteArray.mk dt.toArray = ⟨A1.toArray⟩ := by rw [← hA1]; exact catB [48, 120] dt
  have hl1 : (ByteArray.mk A1.toArray).size = A1.length := sz_mk A1
  have hA1l : A1.length ≤ 7 := by rw [← hA1, List.length_append]; show 2 + _ ≤ _; omega
  rw [hA1] at HD
  have htr := fun wx => Tryz.strings_TrimRight_one ⟨(D1.drop 1).toArray⟩ 48 (by decide) wx (by rw [sz_mk, List.length_drop]; omega)
  rw [dt_mk] at htr
  have htrl : (Lib.trimRightB (D1.drop 1) 48).length ≤ 16 := by
    have h1 : (Lib.trimRightB (D1.drop 1) 48).length ≤ (D1.drop 1).length := by
      unfold Lib.trimRightB
      rw [List.length_reverse]
      have h2 := (List.dropWhile_suffix (fun c : UInt8 => c == 48) (l := (D1.drop 1).reverse)).length_le
      rw [List.length_reverse] at h2
      exact h2
    rw [List.length_drop] at h1
    omega
  have hcut : D1 ≠ [] → ∀ wx, (Instr.slice 9 (.string ⟨D1.toArray⟩) (some (.int .i64 1)) none none).run Tryz.prog wx = .ok (.string ⟨(D1.drop 1).toArray⟩) wx := fun q wx => run_from D1 1 (List.length_pos_iff.2 q) wx
  have hD1 : D1 ≠ [] := by
    intro q
    rw [q] at hxd
    by_cases c : m2 < 16
    · rw [hxD_small c] at hxd; cases hxd
    · rw [hxD_step c] at hxd; exact absurd hxd (by simp)
  have hcut := hcut hD1
  generalize D1.drop 1 = D2 at *
  generalize Lib.trimRightB D2 48 = T3 at *
  clear hdt hxd hD1 hws hx16
  by_cases c0 : m % 4503599627370496 = 0
  · rw [if_pos c0, List.nil_append] at HD
    obtain ⟨A3, hA3⟩ : ∃ A, A1 ++ [112] = A := ⟨_, rfl⟩
    have hc3 : ByteArray.mk A1.toArray ++ ByteArray.mk #[112] = ⟨A3.toArray⟩ := by rw [← hA3]; exact catB A1 [112]
    have hl3 : (ByteArray.mk A3.toArray).size = A3.length := sz_mk A3
    have hA3l : A3.length ≤ 8 := by rw [← hA3, List.length_append]; show _ + 1 ≤ _; omega
    obtain ⟨A4, hA4⟩ : ∃ A, A3 ++ ws = A := ⟨_, rfl⟩
    have hc4 : ByteArray.mk A3.toArray ++ ByteArray.mk ws.toArray = ⟨A4.toArray⟩ := by rw [← hA4]; exact catB A3 ws
    have HD2 : Hid (hxT m e = A4) := by unfold Hid; rw [HD.out, ← hA4, ← hA3]; simp
    rw [HD2.out]
    have k0 : (((m % 4503599627370496 : Nat) : Int) != 0) = false := by rw [c0]; rfl
    generalize m % 4503599627370496 = kp at *
    clear HD HD2 hA1 hA3 hA4 c0
    go_enter Tryz.func67, Tryz.ntmps67
    go_wp2_with fail
    refine (hb _).mono ?_
    rintro r w1 ⟨rfl, k1⟩
    obtain ⟨w2, hw2⟩ : ∃ w2, w1.alloc (.cells #[.int .i64 52, .int .i64 2047, .int .i64 (-1074)] 85) = w2 := ⟨_, rfl⟩
    have F2 : Fm w2 w1.heap.size := by rw [← hw2]; exact Fm.new w1
    have k2 : Keep w1 w2 := by rw [← hw2]; exact (Keep.refl w1).alloc _
    obtain ⟨f0, f1, f2⟩ := F2.cells
    have k12 := k1.trans k2
    go_wp2_with fail
    refine (hF _).mono ?_
    rintro r w3 ⟨rfl, k3⟩
    obtain ⟨g0, g1, g2⟩ := (F2.keep k3).cells
    have k13 := k12.trans k3
    go_wp2_with fail
    refine (hW _ k13).mono ?_
    rintro r w4 ⟨rfl, k4⟩
    go_wp2_with fail
    go_ret
    exact ⟨rfl, k13.trans k4⟩
  · rw [if_neg c0] at HD
    obtain ⟨B1, hB1⟩ : ∃ B, [46] ++ T3 = B := ⟨_, rfl⟩
    have hcB : ByteArray.mk #[46] ++ ByteArray.mk T3.toArray = ⟨B1.toArray⟩ := by rw [← hB1]; exact catB [46] T3
    have hlT : (ByteArray.mk T3.toArray).size = T3.length := sz_mk T3
    have hlB : (ByteArray.mk B1.toArray).size = B1.length := sz_mk B1
    have hB1l : B1.length ≤ 17 := by rw [← hB1, List.length_append]; show 1 + _ ≤ _; omega
    obtain ⟨A2, hA2⟩ : ∃ A, A1 ++ B1 = A := ⟨_, rfl⟩
    have hc2 : ByteArray.mk A1.toArray ++ ByteArray.mk B1.toArray = ⟨A2.toArray⟩ := by rw [← hA2]; exact catB A1 B1
    have hl2 : (ByteArray.mk A2.toArray).size = A2.length := sz_mk A2
    have hA2l : A2.length ≤ 24 := by rw [← hA2, List.length_append]; omega
    obtain ⟨A3, hA3⟩ : ∃ A, A2 ++ [112] = A := ⟨_, rfl⟩
    have hc3 : ByteArray.mk A2.toArray ++ ByteArray.mk #[112] = ⟨A3.toArray⟩ := by rw [← hA3]; exact catB A2 [112]
    have hl3 : (ByteArray.mk A3.toArray).size = A3.length := sz_mk A3
    have hA3l : A3.length ≤ 25 := by rw [← hA3, List.length_append]; show _ + 1 ≤ _; omega
    obtain ⟨A4, hA4⟩ : ∃ A, A3 ++ ws = A := ⟨_, rfl⟩
    have hc4 : ByteArray.mk A3.toArray ++ ByteArray.mk ws.toArray = ⟨A4.toArray⟩ := by rw [← hA4]; exact catB A3 ws
    have HD2 : Hid (hxT m e = A4) := by unfold Hid; rw [HD.out, ← hA4, ← hA3, ← hA2, ← hB1]; simp
    rw [HD2.out]
    have k0 : (((m % 4503599627370496 : Nat) : Int) != 0) = true := by rw [bne_iff_ne]; omega
    generalize m % 4503599627370496 = kp at *
    clear HD HD2 hA1 hA2 hA3 hA4 hB1 c0
    go_enter Tryz.func67, Tryz.ntmps67
    go_wp2_with fail
    refine (hb _).mono ?_
    rintro r w1 ⟨rfl, k1⟩
    obtain ⟨w2, hw2⟩ : ∃ w2, w1.alloc (.cells #[.int .i64 52, .int .i64 2047, .int .i64 (-1074)] 85) = w2 := ⟨_, rfl⟩
    have F2 : Fm w2 w1.heap.size := by rw [← hw2]; exact Fm.new w1
    have k2 : Keep w1 w2 := by rw [← hw2]; exact (Keep.refl w1).alloc _
    obtain ⟨f0, f1, f2⟩ := F2.cells
    have k12 := k1.trans k2
    go_wp2_with fail
    refine (hF _).mono ?_
    rintro r w3 ⟨rfl, k3⟩
    obtain ⟨g0, g1, g2⟩ := (F2.keep k3).cells
    have k13 := k12.trans k3
    go_wp2_with fail
    refine (hG _ k13).mono ?_
    rintro r w4 ⟨rfl, k4⟩
    obtain ⟨i0, i1, i2⟩ := ((F2.keep k3).keep k4).cells
    have k14 := k13.trans k4
    go_wp2_with fail
    refine (htr _).mono ?_
    rintro r w5 ⟨rfl, hz⟩
    subst hz
    go_wp2_with fail
    refine (hW _ k14).mono ?_
    rintro r w6 ⟨rfl, k6⟩
    go_wp2_with fail
    go_ret
    exact ⟨rfl, k14.trans k6⟩
end Go.Proofs.YtpdjpjkieafnbaaGreatDoor.Li
set_option linter.unusedVariables false
set_option linter.unusedSimpArgs false
namespace Go.Proofs.YtpdjpjkieafnbaaGreatDoor.Li
open Go.RowKit Lb Nr
/-- A hexadecimal's text. -/
def htx (ng : Bool) (A B P : List UInt8) : List UInt8 := (if ng then [45] else []) ++ ([48, 120] ++ (A ++ ((if B = [] then [] else 46 :: B) ++ P)))
theorem htx_parts (ng : Bool) (A B E : List UInt8) (q : UInt8) (hA : allX A) (hA0 : A ≠ []) (hB : allX B) (P : List UInt8) (hP : P = 112 :: q :: E) :
    cNg (htx ng A B P) = ng ∧ cHx (htx ng A B P) = true ∧ cWh (htx ng A B P) = A ∧ cPt (htx ng A B P) = B ∧ cGo (htx ng A B P) = true ∧ (∃ X, X ++ P = htx ng A B P ∧ X.length = cK4 (htx ng A B P)) := by
  obtain ⟨R, hR⟩ : ∃ R, R = (if B = [] then [] else 46 :: B) ++ P := ⟨_, rfl⟩
  have hRh : ∃ c r, R = c :: r ∧ isX true c = false := by
    by_cases hb : B = []
    · rw [if_pos hb, List.nil_append, hP] at hR
      exact ⟨112, _, hR, by decide⟩
    · rw [if_neg hb] at hR
      exact ⟨46, _, hR, by decide⟩
  have hs : htx ng A B P = (if ng then [45] else []) ++ (48 :: 120 :: (A ++ R)) := by unfold htx; rw [← hR]; rfl
  have hn : cNg (htx ng A B P) = ng := by
    rw [hs]
    unfold cNg Lib.hasPrefix
    cases ng <;> simp [List.isPrefixOf]
  have hk1 : (htx ng A B P).drop (cK1 (htx ng A B P)) = 48 :: 120 :: (A ++ R) := by
    unfold cK1
    rw [hn, hs]
    cases ng <;> simp
  have hx : cHx (htx ng A B P) = true := by
    unfold cHx
    rw [hk1]
    simp [Lib.hasPrefix, List.isPrefixOf]
  have hk2 : cK2 (htx ng A B P) = cK1 (htx ng A B P) + 2 := by unfold cK2; rw [hx]; rfl
  have hd2 : (htx ng A B P).drop (cK2 (htx ng A B P)) = A ++ R := by
    rw [hk2, ← List.drop_drop, hk1]
    rfl
  have hw : cWh (htx ng A B P) = A := by
    unfold cWh
    rw [hd2, hx]
    exact tw_end hA (.inr hRh)
  have hK1 : cK1 (htx ng A B P) = (if ng then [45] else [] : List UInt8).length := by unfold cK1; rw [hn]; cases ng <;> rfl
  have hs2 : htx ng A B P = ((if ng then [45] else []) ++ ([48, 120] ++ A)) ++ R := by rw [hs]; simp
  have hK3 : cK3 (htx ng A B P) = ((if ng then [45] else [] : List UInt8) ++ ([48, 120] ++ A)).length := by
    unfold cK3
    rw [hk2, hw, hK1, List.length_append, List.length_append]
    show _ + 2 + _ = _ + (2 + _)
    omega
  have hd3 : (htx ng A B P).drop (cK3 (htx ng A B P)) = R := by
    rw [hK3]
    conv => lhs; rw [hs2]
    exact drop_len _ _
  have hwne : (cWh (htx ng A B P) == []) = false := by rw [hw, beq_eq_false_iff_ne]; exact hA0
  by_cases hb : B = []
  · have hRP : R = P := by rw [hR, if_pos hb, List.nil_append]
    have hdot : cDot (htx ng A B P) = false := by
      unfold cDot
      rw [hd3, hRP, hP]
      simp [Lib.hasPrefix, List.isPrefixOf]
    refine ⟨hn, hx, hw, ?_, ?_, _, (hs2.trans (by rw [hRP])).symm, ?_⟩
    · unfold cPt; rw [hdot, hb]; rfl
    · unfold cGo; rw [hwne, hdot]; rfl
    · unfold cK4; rw [hdot]; exact hK3.symm
  · have hRB : R = 46 :: (B ++ P) := by rw [hR, if_neg hb, List.cons_append]
    have hdot : cDot (htx ng A B P) = true := by
      unfold cDot
      rw [hd3, hRB, hwne]
      simp [Lib.hasPrefix, List.isPrefixOf]
    have hpt : cPt (htx ng A B P) = B := by
      unfold cPt
      rw [hdot, if_pos rfl, hx, ← List.drop_drop, hd3, hRB]
      show (B ++ P).takeWhile (isX true) = B
      exact tw_end hB (.inr ⟨112, _, hP, by decide⟩)
    refine ⟨hn, hx, hw, hpt, ?_, ((if ng then [45] else []) ++ ([48, 120] ++ A)) ++ (46 :: B), ?_, ?_⟩
    · unfold cGo
      rw [hwne, hdot, hpt]
      have : (B == []) = false := by rw [beq_eq_false_iff_ne]; exact hb
      rw [this]; rfl
    · rw [hs2, hRB]; simp
    · unfold cK4
      rw [hdot, if_pos rfl, hpt, hK3]
      simp
      omega
theorem at_powX {s X : List UInt8} {k : Nat} (ns : Bool) (E : List UInt8) (hX : X ++ (112 :: (if ns then 45 else 43) :: E) = s) (hk : X.length = k) (hE : allD E) (hE0 : E ≠ []) : cpO true s k = true ∧ cpN true s k = ns ∧ cpD true s k = E := by
  have h1 : cpE true s k = true := by
    unfold cpE
    rw [← hX, ← hk, tk_at]
    show decide ((112 : UInt8) ∈ mkE true) = true
    decide
  have hs2 : s = (X ++ [112]) ++ ((if ns then 45 else 43) :: E) := by rw [← hX]; simp
  have hk2 : k + 1 = (X ++ [112]).length := by simp [hk]
  have h2 : cpS s k = true := by
    unfold cpS
    rw [hs2, hk2, tk_at]
    cases ns
    · show decide ((43 : UInt8) ∈ ([43, 45] : List UInt8)) = true
      decide
    · show decide ((45 : UInt8) ∈ ([43, 45] : List UInt8)) = true
      decide
  have h3 : tk s [45] (k + 1) = ns := by
    rw [hs2, hk2, tk_at]
    cases ns
    · show decide ((43 : UInt8) ∈ ([45] : List UInt8)) = false
      decide
    · show decide ((45 : UInt8) ∈ ([45] : List UInt8)) = true
      decide
  have hJ : cpJ s k = k + 2 := by unfold cpJ; rw [h2]; rfl
  have hD : cpD true s k = E := by
    unfold cpD
    rw [if_pos h1, hJ]
    have e : s.drop (k + 2) = E := by
      have hs3 : s = (X ++ [112, (if ns then 45 else 43)]) ++ E := by rw [hs2]; simp
      have hk3 : k + 2 = (X ++ [112, (if ns then 45 else 43)]).length := by simp [hk]
      rw [hs3, hk3]
      exact drop_len _ _
    rw [e]
    exact tw_all' hE
  have hK : cpK true s k = s.length := by
    unfold cpK
    rw [if_pos h1, hD, hJ, ← hX]
    simp only [List.length_append, List.length_cons]
    omega
  have hl : 0 < E.length := List.length_pos_iff.2 hE0
  refine ⟨?_, ?_, hD⟩
  · unfold cpO
    rw [if_pos h1, hD, hK, decide_eq_true hl]
    simp
  · unfold cpN
    rw [h1, h3]
    rfl
/-- Every hexadecimal's text as Hex lays it is read as the number nearest to what it says. -/
theorem Read_htx (ng : Bool) (A B : List UInt8) (z : Int) (hA : allX A) (hA0 : A ≠ []) (hB : allX B) (hz : -99999 ≤ z ∧ z ≤ 99999) (hl : (htx ng A B (112 :: wsT z)).length ≤ 4096) (w : World) :
    Calls Tryz.prog 12 #[.string ⟨(htx ng A B (112 :: wsT z)).toArray⟩] w fun e w' =>
      ∃ x : Nat, e = .returned (.tuple #[.float .f64 (x + sg ng), .int .i64 0, .int .i64 0]) ∧ NB (hnat (A ++ B) * 2 ^ (z - 4 * (B.length : Int)).toNat) (2 ^ (-(z - 4 * (B.length : Int))).toNat) x ∧ Keep w w' := by
  have hws : wsT z = (if decide (z < 0) = true then 45 else 43) :: dD z.natAbs := by
    unfold wsT
    by_cases c : z < 0
    · rw [if_pos c, if_pos (decide_eq_true c)]
    · rw [if_neg c, if_neg (by simpa using c)]
  obtain ⟨p1, p2, p3, p4, p5, X, hX, hk⟩ := htx_parts ng A B (dD z.natAbs) _ hA hA0 hB (112 :: wsT z) (by rw [hws])
  obtain ⟨g1, g2, g3, g4⟩ := way_go p5
  rw [p2] at g1 g2 g4
  obtain ⟨q1, q2, q3⟩ := at_powX (s := htx ng A B (112 :: wsT z)) (X := X) (decide (z < 0)) (dD z.natAbs) (by rw [← hws]; exact hX) hk (dD_d _ _ (Nat.le_refl _)) (dD_ne _)
  have hok : cOk (htx ng A B (112 :: wsT z)) = true := by rw [g4]; exact q1
  have hP : rxP (htx ng A B (112 :: wsT z)) = z - 4 * (B.length : Int) := by
    unfold rxP
    rw [g1, g2, q2, q3, p4]
    have hn := dD_nat z.natAbs z.natAbs (Nat.le_refl _)
    have hf : far = 1048576 := rfl
    unfold pwN
    rw [hn, hf]
    by_cases c : z < 0
    · rw [if_pos (decide_eq_true c)]; omega
    · rw [if_neg (by simpa using c)]; omega
  have hN : rxN (htx ng A B (112 :: wsT z)) = hnat (A ++ B) := by unfold rxN; rw [p3, p4]
  refine (Read_all (htx ng A B (112 :: wsT z)) w).mono ?_
  rintro r w' ⟨x, e, a, rfl, hF, k⟩
  obtain ⟨m1, m2, m3⟩ := not_word hok
  rcases hF with ⟨h0, -⟩ | ⟨h0, ⟨h1, -⟩ | ⟨h1, -⟩ | ⟨h1, -⟩ | ⟨-, rfl, rfl, y, rfl, -, hy⟩ | ⟨-, -, -, h1, -⟩⟩
  · omega
  · exact absurd h1 m1
  · exact absurd h1 m2
  · exact absurd h1 m3
  · have := hy p2
    rw [hN, hP] at this
    rw [p1]
    exact ⟨y, rfl, this, k⟩
  · rw [hok] at h1; cases h1
end Go.Proofs.YtpdjpjkieafnbaaGreatDoor.Li
set_option linter.unusedVariables false
set_option linter.unusedSimpArgs false
namespace Go.Proofs.YtpdjpjkieafnbaaGreatDoor.Li
open Go.RowKit Lb Nr
theorem hd_hv : ∀ d, d < 16 → hv (hd d) = d ∧ isX true (hd d) = true := by decide
theorem hxD_one (k : Nat) : ∀ r, r < 16 ^ k → ∃ X : List UInt8, hxD (16 ^ k + r) = hd 1 :: X ∧ X.length = k ∧ hnat X = r ∧ allX X := by
  induction k with
  | zero =>
    intro r hr
    have : r = 0 := by rw [Nat.pow_zero] at hr; omega
    subst this
    exact ⟨[], hxD_small (by decide), rfl, rfl, fun b hb => by simp at hb⟩
  | succ k ih =>
    intro r hr
    rw [Nat.pow_succ] at hr
    obtain ⟨X, h1, h2, h3, h4⟩ := ih (r / 16) (by omega)
    have hp : 0 < 16 ^ k := Nat.pow_pos (by decide)
    have e1 : (16 ^ (k + 1) + r) / 16 = 16 ^ k + r / 16 := by rw [Nat.pow_succ]; omega
    have e2 : (16 ^ (k + 1) + r) % 16 = r % 16 := by rw [Nat.pow_succ]; omega
    have hq := hd_hv (r % 16) (Nat.mod_lt _ (by omega))
    refine ⟨X ++ [hd (r % 16)], ?_, by simp [h2], ?_, ?_⟩
    · rw [hxD_step (by rw [Nat.pow_succ]; omega), e1, e2, h1]; rfl
    · rw [hnat_append, h3]
      show r / 16 * 16 ^ 1 + (0 * 16 + hv (hd (r % 16))) = r
      rw [hq.1]
      omega
    · exact allX.app h4 (fun b hb => by simp at hb; rw [hb]; exact hq.2)
/-- What Hex keeps behind the point. -/
theorem hx_kept {r : Nat} (h : r < 4503599627370496) (h0 : r ≠ 0) : ∃ B : List UInt8, Lib.trimRightB ((hxD (4503599627370496 + r)).drop 1) 48 = B ∧ B ≠ [] ∧ allX B ∧ B.length ≤ 13 ∧ hnat B * 16 ^ (13 - B.length) = r := by
  obtain ⟨X, h1, h2, h3, h4⟩ := hxD_one 13 r h
  have e : (4503599627370496 : Nat) = 16 ^ 13 := by decide
  rw [e, h1]
  show ∃ B, tr0 X = B ∧ _
  obtain ⟨q, hq⟩ := tr0_split X
  generalize tr0 X = B at hq
  have hl : B.length + q = 13 := by rw [← h2, hq]; simp
  have hn : hnat B * 16 ^ q = r := by
    rw [← h3, hq, hnat_append, hnat_zeros, List.length_replicate]; rfl
  refine ⟨B, rfl, ?_, ?_, by omega, ?_⟩
  · intro z
    rw [z] at hn
    apply h0
    rw [← hn]
    show 0 * _ = 0
    exact Nat.zero_mul _
  · intro b hb
    refine h4 b ?_
    rw [hq]
    exact List.mem_append_left _ hb
  · rw [show 13 - B.length = q by omega]; exact hn
theorem dD_bit {t : Nat} (h : t < 2) : allX (dD t) ∧ dD t ≠ [] ∧ hnat (dD t) = t ∧ (dD t).length = 1 := by
  have : t = 0 ∨ t = 1 := by omega
  rcases this with rfl | rfl
  · rw [show dD 0 = [48] by rw [dD, dif_pos (by omega)]; rfl]
    exact ⟨fun b hb => by simp at hb; rw [hb]; decide, by simp, by decide, rfl⟩
  · rw [show dD 1 = [49] by rw [dD, dif_pos (by omega)]; rfl]
    exact ⟨fun b hb => by simp at hb; rw [hb]; decide, by simp, by decide, rfl⟩
/-- What Hex writes is read back. -/
theorem rb_hex {b : Nat} (hb : b < 18446744073709551616) (hk : pKind b = 1 ∨ pKind b = 2) : RB (sgS (pNeg b) (hxT (pM b) (pE b))) b := by
  obtain ⟨p1, p2, p3, p4⟩ := kind_parts hk
  have hf := kind_field hk
  obtain ⟨x, hx⟩ : ∃ x, b % 9223372036854775808 = x := ⟨_, rfl⟩
  have hx2 : x < 9218868437227405312 := by unfold pField at hf; omega
  have hbx := amount_of hb
  rw [hx] at hbx
  obtain ⟨e1, e2, e3⟩ := amount_partsB x (pNeg b) (by omega)
  rw [← hbx] at e1 e2 e3
  have hk' := hk
  rw [e3] at hk'
  obtain ⟨B, hB, hBx, hBl, hBn⟩ : ∃ B : List UInt8, (if pM b % 4503599627370496 = 0 then [] else 46 :: Lib.trimRightB ((hxD (4503599627370496 + pM b % 4503599627370496)).drop 1) 48) = (if B = [] then [] else 46 :: B) ∧ allX B ∧ B.length ≤ 13 ∧ hnat B * 16 ^ (13 - B.length) = pM b % 4503599627370496 := by
    by_cases c : pM b % 4503599627370496 = 0
    · refine ⟨[], by rw [if_pos c, if_pos rfl], fun b hb => by simp at hb, by simp, ?_⟩
      rw [c]
      exact Nat.zero_mul _
    · obtain ⟨B, q1, q2, q3, q4, q5⟩ := hx_kept (Nat.mod_lt _ (by omega)) c
      exact ⟨B, by rw [if_neg c, if_neg q2, q1], q3, q4, q5⟩
  obtain ⟨d1, d2, d3, d4⟩ := dD_bit (t := pM b / 4503599627370496) (by omega)
  have hs : sgS (pNeg b) (hxT (pM b) (pE b)) = htx (pNeg b) (dD (pM b / 4503599627370496)) B (112 :: wsT (pE b + 52)) := by
    unfold sgS hxT htx
    rw [hB]
    simp
  have hwl := wsT_len (pE b + 52) (by omega)
  have hsl : (htx (pNeg b) (dD (pM b / 4503599627370496)) B (112 :: wsT (pE b + 52))).length ≤ 4096 := by
    unfold htx
    have h1 : (if pNeg b then [45] else [] : List UInt8).length ≤ 1 := by split <;> simp
    have h2 : (if B = [] then [] else 46 :: B : List UInt8).length ≤ 14 := by split <;> simp <;> omega
    simp only [List.length_append, List.length_cons, List.length_nil, d4]
    omega
  have hN : hnat (dD (pM b / 4503599627370496) ++ B) * 2 ^ (52 - 4 * B.length) = pM b := by
    have e16 : (2 : Nat) ^ (52 - 4 * B.length) = 16 ^ (13 - B.length) := by
      rw [show (16 : Nat) = 2 ^ 4 by decide, ← Nat.pow_mul]
      congr 1
      omega
    have e13 : (16 : Nat) ^ B.length * 16 ^ (13 - B.length) = 4503599627370496 := by
      rw [← Nat.pow_add, show B.length + (13 - B.length) = 13 by omega]
    rw [hnat_append, d3, e16, Nat.add_mul, hBn, Nat.mul_assoc, e13]
    omega
  have hpos : 0 < hnat (dD (pM b / 4503599627370496) ++ B) := by
    rcases Nat.eq_zero_or_pos (hnat (dD (pM b / 4503599627370496) ++ B)) with q | q
    · rw [q, Nat.zero_mul] at hN; omega
    · exact q
  have hNB : NB (hnat (dD (pM b / 4503599627370496) ++ B) * 2 ^ (pE b + 52 - 4 * (B.length : Int)).toNat) (2 ^ (-(pE b + 52 - 4 * (B.length : Int))).toNat) x := by
    refine exact_nb (Nat.mul_pos hpos (Nat.two_pow_pos _)) (Nat.two_pow_pos _) hx2 hk' ?_
    rw [← e1, ← e2]
    conv => rhs; rw [← hN]
    rw [Nat.mul_assoc, Nat.mul_assoc, ← Nat.pow_add, ← Nat.pow_add, ← Nat.pow_add]
    congr 2
    omega
  rw [← hx] at hNB
  rw [hs]
  exact rb_of hb (Nat.two_pow_pos _) hf hNB (fun w => Read_htx (pNeg b) _ B (pE b + 52) d1 d2 hBx (by omega) hsl w)
end Go.Proofs.YtpdjpjkieafnbaaGreatDoor.Li
set_option linter.unusedVariables false
set_option linter.unusedSimpArgs false
namespace Go.Proofs.YtpdjpjkieafnbaaGreatDoor.Li
open Go.RowKit Lb Nr
theorem rb_hex0 {b : Nat} (hb : b < 18446744073709551616) (hk : pKind b = 0) : RB (sgS (pNeg b) [48, 120, 48, 112, 43, 48]) b := by
  have hz : b % 9223372036854775808 = 0 := by
    unfold pKind pField pKept at hk
    repeat' split at hk
    all_goals omega
  have hab := amount_of hb
  rw [hz, Nat.zero_add] at hab
  have hs : sgS (pNeg b) [48, 120, 48, 112, 43, 48] = htx (pNeg b) [48] [] (112 :: wsT 0) := by
    unfold sgS htx wsT
    rw [if_neg (show ¬ (0 : Int) < 0 by omega), show (0 : Int).natAbs = 0 by rfl, dD_small (show 0 < 10 by omega)]
    rfl
  rw [hs]
  intro w
  have hl : (htx (pNeg b) [48] [] (112 :: wsT 0)).length ≤ 4096 := by rw [← hs]; unfold sgS; cases pNeg b <;> simp
  refine (Read_htx (pNeg b) [48] [] 0 (fun c hc => by simp at hc; rw [hc]; decide) (by simp) (fun c hc => by simp at hc) (by omega) hl w).mono ?_
  rintro e w' ⟨y, rfl, hy, k⟩
  have hy0 : y = 0 := hy.1 (by rw [show hnat ([48] ++ []) = 0 by decide, Nat.zero_mul])
  refine ⟨_, rfl, fun q => ?_, fun _ => ?_, k⟩
  · exfalso
    have q' : 9218868437227405312 < b % 9223372036854775808 := q
    omega
  · rw [hy0, Nat.zero_add]; exact hab.symm
theorem hxT_len {m : Nat} {e : Int} (hm : m < 9007199254740992) (he : -2000 ≤ e ∧ e ≤ 2000) : (hxT m e).length ≤ 100000 := by
  have hwl := wsT_len (e + 52) (by omega)
  have h1 : (dD (m / 4503599627370496)).length = 1 := (dD_bit (by omega)).2.2.2
  have h2 : (if m % 4503599627370496 = 0 then [] else 46 :: Lib.trimRightB ((hxD (4503599627370496 + m % 4503599627370496)).drop 1) 48 : List UInt8).length ≤ 14 := by
    split
    · simp
    · rename_i c
      obtain ⟨B, q1, q2, q3, q4, q5⟩ := hx_kept (Nat.mod_lt _ (by omega)) c
      rw [q1, List.length_cons]
      omega
  unfold hxT
  simp only [List.length_append, List.length_cons, List.length_nil, h1]
  omega
set_option maxRecDepth 100000 in
set_option maxHeartbeats 800000 in
theorem Hex_some (b : Nat) (hb : b < 18446744073709551616) (hk : pKind b = 1 ∨ pKind b = 2) (w : World) (hT : ∀ wx, Keep w wx → Bi.Tab wx) (hP : ∀ wx, Keep w wx → Lib.TabIs Tryz.prog wx "internal/strconv.uint64pow10" .u64 Lib.pow10Tab) :
    Calls Tryz.prog 25 #[.float .f64 b] w fun r w' => r = .returned (.string ⟨(sgS (pNeg b) (hxT (pM b) (pE b))).toArray⟩) ∧ Keep w w' := by
  obtain ⟨p1, p2, p3, p4⟩ := kind_parts hk
  have hPt := Parts_any b hb w
  have hH := fun wx (k : Keep w wx) => hexDigits_any (pM b) (pE b) wx p2 (by omega) (fun wy ky => hT wy (k.trans ky)) (fun wy ky => hP wy (k.trans ky))
  have hl : (hxT (pM b) (pE b)).length ≤ 100000 := hxT_len p2 (by omega)
  generalize hxT (pM b) (pE b) = T at *
  generalize pM b = m at *
  generalize pE b = e at *
  generalize pNeg b = ng at *
  clear hT hP p1 p2 p3 p4
  have HH : Hid (∀ wx, Keep w wx → Calls Tryz.prog 67 #[.int .u64 (m : Int), .int .i64 e] wx fun r w' => r = .returned (.string ⟨T.toArray⟩) ∧ Keep wx w') := hH
  clear hH
  have hlT : (ByteArray.mk T.toArray).size = T.length := sz_mk T
  rcases hk with hk | hk
  · rw [hk] at hPt
    have hS := fun wx => signedF_any ng 1 T (by omega) hl wx
    obtain ⟨Y, hY⟩ : ∃ Y, sgS ng T = Y := ⟨_, rfl⟩
    rw [hY] at hS
    rw [hY]
    clear hk hY
    go_enter Tryz.func25, Tryz.ntmps25
    go_wp2_with fail
    refine hPt.mono ?_
    rintro r w1 ⟨rfl, k1⟩
    go_wp2_with fail
    refine (HH.out _ k1).mono ?_
    rintro r w2 ⟨rfl, k2⟩
    go_wp2_with fail
    refine (hS _).mono ?_
    rintro r w3 ⟨rfl, hz⟩
    subst hz
    go_wp2_with fail
    go_ret
    exact ⟨rfl, k1.trans k2⟩
  · rw [hk] at hPt
    have hS := fun wx => signedF_any ng 2 T (by omega) hl wx
    obtain ⟨Y, hY⟩ : ∃ Y, sgS ng T = Y := ⟨_, rfl⟩
    rw [hY] at hS
    rw [hY]
    clear hk hY
    go_enter Tryz.func25, Tryz.ntmps25
    go_wp2_with fail
    refine hPt.mono ?_
    rintro r w1 ⟨rfl, k1⟩
    go_wp2_with fail
    refine (HH.out _ k1).mono ?_
    rintro r w2 ⟨rfl, k2⟩
    go_wp2_with fail
    refine (hS _).mono ?_
    rintro r w3 ⟨rfl, hz⟩
    subst hz
    go_wp2_with fail
    go_ret
    exact ⟨rfl, k1.trans k2⟩
/-- The text of what has no digits. -/
def hxS (b : Nat) : List UInt8 := if pKind b = 4 then [110, 97, 110] else sgS (pNeg b) (if pKind b = 0 then [48, 120, 48, 112, 43, 48] else [105, 110, 102])
set_option maxRecDepth 100000 in
set_option maxHeartbeats 800000 in
theorem Hex_named (b : Nat) (hb : b < 18446744073709551616) (hk : pKind b = 0 ∨ pKind b = 3 ∨ pKind b = 4) (w : World) :
    Calls Tryz.prog 25 #[.float .f64 b] w fun r w' => r = .returned (.string ⟨(hxS b).toArray⟩) ∧ Keep w w' := by
  have hP := Parts_any b hb w
  unfold hxS
  generalize pM b = m at *
  generalize pE b = e at *
  generalize pNeg b = ng at *
  rcases hk with hk | hk | hk
  · rw [hk] at hP
    rw [hk, if_neg (by omega), if_pos rfl]
    have hS := fun wx => signedF_any ng 0 [48, 120, 48, 112, 43, 48] (by omega) (by simp) wx
    obtain ⟨Y, hY⟩ : ∃ Y, sgS ng [48, 120, 48, 112, 43, 48] = Y := ⟨_, rfl⟩
    rw [hY] at hS
    rw [hY]
    clear hk hY
    go_enter Tryz.func25, Tryz.ntmps25
    go_wp2_with fail
    refine hP.mono ?_
    rintro r w1 ⟨rfl, k1⟩
    go_wp2_with fail
    refine (hS _).mono ?_
    rintro r w3 ⟨rfl, hz⟩
    subst hz
    go_wp2_with fail
    go_ret
    exact ⟨rfl, k1⟩
  · rw [hk] at hP
    rw [hk, if_neg (by omega), if_neg (by omega)]
    have hN := fun wx => named_any 3 (by omega) wx
    rw [show nmS 3 = [105, 110, 102] from rfl] at hN
    have hS := fun wx => signedF_any ng 3 [105, 110, 102] (by omega) (by simp) wx
    obtain ⟨Y, hY⟩ : ∃ Y, sgS ng [105, 110, 102] = Y := ⟨_, rfl⟩
    rw [hY] at hS
    rw [hY]
    clear hk hY
    go_enter Tryz.func25, Tryz.ntmps25
    go_wp2_with fail
    refine hP.mono ?_
    rintro r w1 ⟨rfl, k1⟩
    go_wp2_with fail
    refine (hN _).mono ?_
    rintro r w2 ⟨rfl, hz⟩
    subst hz
    go_wp2_with fail
    refine (hS _).mono ?_
    rintro r w3 ⟨rfl, hz⟩
    subst hz
    go_wp2_with fail
    go_ret
    exact ⟨rfl, k1⟩
  · rw [hk] at hP
    rw [hk, if_pos rfl]
    have hN := fun wx => named_any 4 (by omega) wx
    rw [show nmS 4 = [110, 97, 110] from rfl] at hN
    have hS := fun wx => signedF_nan ng ⟨#[110, 97, 110]⟩ wx
    clear hk
    go_enter Tryz.func25, Tryz.ntmps25
    go_wp2_with fail
    refine hP.mono ?_
    rintro r w1 ⟨rfl, k1⟩
    go_wp2_with fail
    refine (hN _).mono ?_
    rintro r w2 ⟨rfl, hz⟩
    subst hz
    go_wp2_with fail
    refine (hS _).mono ?_
    rintro r w3 ⟨rfl, hz⟩
    subst hz
    go_wp2_with fail
    go_ret
    exact ⟨rfl, k1⟩
theorem rb_hexS {b : Nat} (hb : b < 18446744073709551616) (hk : pKind b = 0 ∨ pKind b = 3 ∨ pKind b = 4) : RB (hxS b) b := by
  rcases hk with hk | hk | hk
  · have := rb_hex0 hb hk
    unfold hxS
    rw [hk, if_neg (by omega), if_pos rfl]
    exact this
  · have := rb_named hb (.inr (.inl hk))
    unfold exS at this
    unfold hxS
    rw [hk, if_neg (by omega)] at this
    rw [hk, if_neg (by omega), if_neg (by omega)]
    exact this
  · have := rb_named hb (.inr (.inr hk))
    unfold exS at this
    unfold hxS
    rw [if_pos hk] at this ⊢
    exact this
/-- Hex, Exact and Shortest of every number: what they write is read back. -/
theorem Hex_back (b : Nat) (hb : b < 18446744073709551616) (w : World) (hT : ∀ wx, Keep w wx → Bi.Tab wx) (hP : ∀ wx, Keep w wx → Lib.TabIs Tryz.prog wx "internal/strconv.uint64pow10" .u64 Lib.pow10Tab) :
    Calls Tryz.prog 25 #[.float .f64 b] w fun r w' => ∃ X : List UInt8, r = .returned (.string ⟨X.toArray⟩) ∧ RB X b ∧ Keep w w' := by
  have hin := pKind_in b
  by_cases hk : pKind b = 1 ∨ pKind b = 2
  · refine (Hex_some b hb hk w hT hP).mono ?_
    rintro r w' ⟨rfl, k⟩
    exact ⟨_, rfl, rb_hex hb hk, k⟩
  · refine (Hex_named b hb (by omega) w).mono ?_
    rintro r w' ⟨rfl, k⟩
    exact ⟨_, rfl, rb_hexS hb (by omega), k⟩
theorem Exact_back (b : Nat) (hb : b < 18446744073709551616) (w : World) (hT : Bi.Tab w) :
    Calls Tryz.prog 23 #[.float .f64 b] w fun r w' => ∃ X : List UInt8, r = .returned (.string ⟨X.toArray⟩) ∧ RB X b ∧ Keep w w' := by
  have hin := pKind_in b
  by_cases hk : pKind b = 1 ∨ pKind b = 2
  · refine (Exact_some b hb hk (pM_pos hk) w hT).mono ?_
    rintro r w' ⟨m', e', j, h1, h2, h3, rfl, k⟩
    exact ⟨_, rfl, rb_exact hb hk m' j e' h1 h2 h3, k⟩
  · refine (Exact_named b hb (by omega) w).mono ?_
    rintro r w' ⟨rfl, k⟩
    exact ⟨_, rfl, rb_named hb (by omega), k⟩
set_option maxRecDepth 100000 in
theorem Shortest_named (b : Nat) (w : World) (hb : b < 18446744073709551616) (hk : pKind b = 0 ∨ pKind b = 3 ∨ pKind b = 4) :
    Calls Tryz.prog 21 #[.float .f64 b] w fun e w' => e = .returned (.string ⟨(exS b).toArray⟩) ∧ Keep w w' := by
  have hbn := fun wx => binary64_any wx
  have h34 := fun wx => f64bits b wx
  have hs := fun wx => shortest_named b wx hb hk
  generalize exS b = RR at *
  have HS : Hid (∀ wx, Calls Tryz.prog 57 #[.agg #[.int .i64 52, .int .i64 2047, .int .i64 (-1074)], .int .u64 (b : Int)] wx fun e w' => e = .returned (.string ⟨RR.toArray⟩) ∧ Keep wx w') := hs
  clear hs hk
  go_enter Tryz.func21, Tryz.ntmps21
  go_wp2_with fail
  refine (hbn _).mono ?_
  rintro e w1 ⟨rfl, k1⟩
  go_wp2_with fail
  refine (HS.out _).mono ?_
  rintro e w2 ⟨rfl, k2⟩
  go_wp2_with fail
  go_ret
  exact ⟨rfl, k1.trans k2⟩
theorem Shortest_back (b : Nat) (hb : b < 18446744073709551616) (w : World) (hT : ∀ wx, Keep w wx → Lib.TabIs Tryz.prog wx "internal/strconv.uint64pow10" .u64 Lib.pow10Tab) :
    Calls Tryz.prog 21 #[.float .f64 b] w fun r w' => ∃ X : List UInt8, r = .returned (.string ⟨X.toArray⟩) ∧ RB X b ∧ Keep w w' := by
  have hin := pKind_in b
  by_cases hk : pKind b = 1 ∨ pKind b = 2
  · refine (Shortest_num b w hb hk hT).mono ?_
    rintro r w' ⟨rfl, k⟩
    exact ⟨_, rfl, rb_short hb hk, k⟩
  · refine (Shortest_named b w hb (by omega)).mono ?_
    rintro r w' ⟨rfl, k⟩
    exact ⟨_, rfl, rb_named hb (by omega), k⟩
end Go.Proofs.YtpdjpjkieafnbaaGreatDoor.Li
namespace Go.Proofs.YtpdjpjkieafnbaaGreatDoor.Li.Nw
open Go.RowKit Lb Nr
theorem pKind_in (b : Nat) : pKind b ≤ 4 := by
  unfold pKind
  (repeat' split) <;> omega
set_option maxRecDepth 100000 in
theorem Shortest_back (b : Nat) (hb : b < 4294967296) (w : World) (hT : ∀ wx, Keep w wx → Lib.TabIs Tryz.prog wx "internal/strconv.uint64pow10" .u64 Lib.pow10Tab) :
    Calls Tryz.prog 27 #[.float .f32 b] w fun r w' => ∃ X : List UInt8, r = .returned (.string ⟨X.toArray⟩) ∧ RB X b ∧ Keep w w' := by
  have hin := pKind_in b
  have hbn := fun wx => binary32_any wx
  have h31 := fun wx => f32bitsB b wx
  have hs : ∀ wx, Keep w wx → Calls Tryz.prog 57 #[.agg #[.int .i64 23, .int .i64 255, .int .i64 (-149)], .int .u64 (b : Int)] wx fun e w' => ∃ X : List UInt8, e = .returned (.string ⟨X.toArray⟩) ∧ RB X b ∧ Keep wx w' := by
    intro wx kx
    by_cases hk : pKind b = 1 ∨ pKind b = 2
    · obtain ⟨p1, p2, p3, p4⟩ := kind_parts hk
      refine (shortest_num b wx hb hk p1 p2 ⟨p3, p4⟩ (hT wx kx) (fun wy ky => hT wy (kx.trans ky))).mono ?_
      rintro r w' ⟨rfl, k⟩
      exact ⟨_, rfl, rb_short hb hk, k⟩
    · refine (shortest_named b wx hb (by omega)).mono ?_
      rintro r w' ⟨rfl, k⟩
      exact ⟨_, rfl, rb_named hb (by omega), k⟩
  have HS : Hid (∀ wx, Keep w wx → Calls Tryz.prog 57 #[.agg #[.int .i64 23, .int .i64 255, .int .i64 (-149)], .int .u64 (b : Int)] wx fun e w' => ∃ X : List UInt8, e = .returned (.string ⟨X.toArray⟩) ∧ RB X b ∧ Keep wx w') := hs
  clear hs hin hT
  go_enter Tryz.func27, Tryz.ntmps27
  go_wp2_with fail
  refine (hbn _).mono ?_
  rintro e w1 ⟨rfl, k1⟩
  go_wp2_with fail
  refine (HS.out _ k1).mono ?_
  rintro e w2 ⟨X, rfl, hX, k2⟩
  have HX : Hid (RB X b) := hX
  clear hX
  go_wp2_with fail
  go_ret
  exact ⟨X, rfl, HX.out, k1.trans k2⟩
end Go.Proofs.YtpdjpjkieafnbaaGreatDoor.Li.Nw
