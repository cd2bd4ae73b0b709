import Derived.Test.YtbjidpooociamaaDoorG1
import Derived.Test.YtbjidpooociamaaDoorC18
namespace Go.Proofs.YtbjidpooociamaaDoor
open Go.RowKit Lb
set_option maxRecDepth 100000 in
set_option maxHeartbeats 1600000 in
theorem Print_any : PrintSaid 1099511627776 := by
  intro a ca l w hc hl hr hm hd
  have hL := Len_any a ca l w hc (by omega) hr hm
  have hdig : val l < 10 ^ (lenB l * 30103 / 100000 + 1) := Nat.lt_trans (val_lt_len l hm) (pow_dec _)
  have hnl : nl l ≤ 34359738369 := by
    unfold lenB at hd
    split at hd <;> omega
  generalize lenB l = n at hL hdig hd
  obtain ⟨k, hk⟩ : ∃ k, n * 30103 / 100000 + 1 = k := ⟨_, rfl⟩
  rw [hk] at hdig
  have hkl : k ≤ 1099511627776 := by omega
  have hke : (n : Int) * 30103 / 100000 + 1 = (k : Int) := by omega
  go_enter Tryd.func29, Tryd.ntmps29
  go_wp2_with fail
  refine hL.mono ?_
  rintro e w1 ⟨rfl, hd1⟩
  have hPF := powersFor_any k w1 hkl
  go_wp2_with fail
  refine hPF.mono ?_
  rintro e w2 ⟨v2, vs, rfl, hown, hpows, hnk, hvl, hk2⟩
  have hpw0 := fun av c (e : v2 = .slice av vs.length c) => Pows.pw (e ▸ hown) hpows
  obtain ⟨av, cv, rfl, hcv, -⟩ := hown.shape
  have hpw := hpw0 av cv rfl
  clear hpw0 hown hpows hPF
  have hk02 := hd1.keep.trans hk2
  generalize vs.length = K at *
  have l1 := nl_le l
  have e1 : (l.take (nl l)).length = nl l := by simp; omega
  have hcv0 := hcv
  by_cases hK : K = 0
  · subst hK
    obtain ⟨D, hD⟩ : ∃ D, D = k := ⟨_, rfl⟩
    subst hD
    clear hcv
    go_wp2_with (at_make; refine wpList_make8 _ rfl _ _ rfl _ _ _ _ D rfl rfl rfl rfl (by omega) ?_; intro w3 hrow hk3 hsz)
    have hk03 := hk02.trans hk3
    refine (trim_any a ca l w3 hc (by omega) (hr.keep hk03)).mono ?_
    rintro e w4 ⟨rfl, rfl⟩
    have hS := split_zero w2.heap.size 0 D D a ca (List.replicate D 0) (l.take (nl l)) av cv w4 (by simp) (by simp; omega) hrow (by omega) ((hr.keep hk03).take _) (Lim_take hm _)
    rw [e1, val_take_nl] at hS
    go_wp2_with fail
    refine hS.mono ?_
    rintro e w5 ⟨rfl, h8, hg8⟩
    clear hS
    have h8' : Row8 w5 w2.heap.size (dw D (val l)) := by
      have : List.drop (0 + D) (List.replicate D 0) = [] := List.drop_eq_nil_of_le (by simp)
      rw [this] at h8
      simpa using h8
    have hk05 : Keep w w5 := by
      refine hk02.trans ?_
      exact ⟨(hg8.os.trans hk3.os), (hg8.tape.trans hk3.tape), (hg8.output.trans hk3.output), Nat.le_trans hk3.size hg8.size, fun i hi => (hg8.block i (by omega) (by omega)).trans (hk3.block i hi)⟩
    have hcv := conv8 w5 w2.heap.size D _ h8'
    rw [dw_length] at hcv
    clear h8 hg8 hrow hk3
    have hT := Tryd.strings_TrimLeft_one (S8 (dw D (val l))) 48 (by decide) w5
    rw [show (S8 (dw D (val l))).data.toList = (dw D (val l)).map UInt8.ofNat from by simp [S8], trimLeft_map _ (fun x hx => by have := dw_range _ _ x hx; omega)] at hT
    by_cases h0 : val l = 0
    · have e0 : cut0 (dw D (val l)) = [] := by
        rw [h0, cut0_zero]
      have ed : Hid (dec (val l) = [48]) := by show _ = _; unfold dec; rw [if_pos h0]
      rw [e0] at hT
      clear h0 e0
      go_wp2_with fail
      refine hT.mono ?_
      rintro e w6 ⟨rfl, rfl⟩
      go_wp2
      go_ret
      exact ⟨by rw [ed.out]; rfl, hk05⟩
    · have e0 : cut0 (dw D (val l)) ≠ [] := cut0_ne _ _ (by omega) hdig
      have ed : Hid (dec (val l) = cut0 (dw D (val l))) := by show _ = _; unfold dec; rw [if_neg h0, cut0_eq _ D hdig]
      obtain ⟨x, xs, hx⟩ := List.exists_cons_of_ne_nil e0
      rw [hx] at hT
      have Hx : Hid (cut0 (dw D (val l)) = x :: xs) := hx
      clear h0 e0 hx
      go_wp2_with fail
      refine hT.mono ?_
      rintro e w6 ⟨rfl, rfl⟩
      go_wp2
      go_ret
      exact ⟨by rw [ed.out, Hx.out]; simp [S8], hk05⟩
  · obtain ⟨D, hD⟩ : ∃ D, D = 288 * 2 ^ K := ⟨_, rfl⟩
    have h2k : 2 ^ K ≤ 4294967296 := Nat.le_trans (Nat.pow_le_pow_right (by omega) hvl) (by decide)
    have hPi : (288 : Int) * 2 ^ K = (D : Int) := by rw [hD]; simp
    have hPw : IntKind.i64.wrap (288 * 2 ^ K) = (D : Int) := by rw [hPi, IntKind.wrap_i64]; omega
    have HD : Hid (D = 288 * 2 ^ K) := hD
    have hdig := Nat.lt_of_lt_of_le hdig (Nat.pow_le_pow_right (show 0 < 10 by omega) (show k ≤ D by omega))
    have hDb : D ≤ 1236950581248 := by omega
    clear hD h2k hcv
    go_wp2_with (at_make; refine wpList_make8 _ rfl _ _ rfl _ _ _ _ D rfl rfl rfl rfl (by omega) ?_; intro w3 hrow hk3 hsz)
    have hk03 := hk02.trans hk3
    refine (trim_any a ca l w3 hc (by omega) (hr.keep hk03)).mono ?_
    rintro e w4 ⟨rfl, rfl⟩
    have hS := split_any K (by omega) w2.heap.size 0 D D a ca (List.replicate D 0) (l.take (nl l)) av cv w4 HD.out (by omega) (by simp) (by simp; omega) hrow (by omega) ((hr.keep hk03).take _) (Lim_take hm _) (Nrm_take l) hcv0 (hpw.keep hk3)
    rw [e1, val_take_nl] at hS
    go_wp2_with fail
    refine hS.mono ?_
    rintro e w5 ⟨rfl, h8, hg8⟩
    clear hS
    have h8' : Row8 w5 w2.heap.size (dw D (val l)) := by
      have : List.drop (0 + D) (List.replicate D 0) = [] := List.drop_eq_nil_of_le (by simp)
      rw [this] at h8
      simpa using h8
    have hk05 : Keep w w5 := by
      refine hk02.trans ?_
      exact ⟨(hg8.os.trans hk3.os), (hg8.tape.trans hk3.tape), (hg8.output.trans hk3.output), Nat.le_trans hk3.size hg8.size, fun i hi => (hg8.block i (by omega) (by omega)).trans (hk3.block i hi)⟩
    have hcv := conv8 w5 w2.heap.size D _ h8'
    rw [dw_length] at hcv
    clear h8 hg8 hrow hk3
    have hT := Tryd.strings_TrimLeft_one (S8 (dw D (val l))) 48 (by decide) w5
    rw [show (S8 (dw D (val l))).data.toList = (dw D (val l)).map UInt8.ofNat from by simp [S8], trimLeft_map _ (fun x hx => by have := dw_range _ _ x hx; omega)] at hT
    by_cases h0 : val l = 0
    · have e0 : cut0 (dw D (val l)) = [] := by
        rw [h0, cut0_zero]
      have ed : Hid (dec (val l) = [48]) := by show _ = _; unfold dec; rw [if_pos h0]
      rw [e0] at hT
      clear h0 e0
      go_wp2_with fail
      refine hT.mono ?_
      rintro e w6 ⟨rfl, rfl⟩
      go_wp2
      go_ret
      exact ⟨by rw [ed.out]; rfl, hk05⟩
    · have e0 : cut0 (dw D (val l)) ≠ [] := cut0_ne _ _ (by omega) hdig
      have ed : Hid (dec (val l) = cut0 (dw D (val l))) := by show _ = _; unfold dec; rw [if_neg h0, cut0_eq _ D hdig]
      obtain ⟨x, xs, hx⟩ := List.exists_cons_of_ne_nil e0
      rw [hx] at hT
      have Hx : Hid (cut0 (dw D (val l)) = x :: xs) := hx
      clear h0 e0 hx
      go_wp2_with fail
      refine hT.mono ?_
      rintro e w6 ⟨rfl, rfl⟩
      go_wp2
      go_ret
      exact ⟨by rw [ed.out, Hx.out]; simp [S8], hk05⟩
end Go.Proofs.YtbjidpooociamaaDoor
