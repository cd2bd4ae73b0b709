import Derived.Test.YtolfaheabdedpaaLA
import Derived.Test.YtolfaheabdedpaaBG
set_option linter.unusedVariables false
set_option linter.unusedSimpArgs false
namespace Go.Proofs.Ytolfaheabdedpaa
open Go.RowKit Go.Shelf
theorem pk_bad (V : List (List Nat)) (d : Nat) : badB 8 (pk V d) d = false := badB_no fun j hj => by rw [pk_len] at hj; rw [pk_get V d j hj, tab_len]
theorem upk_pk (V : List (List Nat)) (d : Nat) (hb : badB 1 V d = false) : upk (pk V d) V.length d = V := by
  apply List.ext_getElem
  · rw [upk_len]
  · intro i h1 h2
    have hl := badB_all hb i h2
    have e : V.getD i [] = V[i] := by simp [List.getD, h2]
    rw [e] at hl
    simp only [upk, List.getElem_map, List.getElem_range]
    apply List.ext_getElem
    · rw [tab_len, hl]; omega
    · intro f h3 h4
      rw [tab_len] at h3
      simp only [tab, List.getElem_map, List.getElem_range]
      have hm : i / 8 < many V.length := by unfold many; omega
      unfold upC
      rw [pk_get V d _ hm, tab_get (by omega)]
      unfold pkC
      have e1 : min (8 * (i / 8) + (f * 8 + i % 8) % 8) (V.length - 1) = i := by omega
      have e2 : (f * 8 + i % 8) / 8 = f := by omega
      rw [e1, e2, e]
      simp [List.getD, h4]
theorem up_pk (V : List (List Nat)) (d : Int) (h : pkE V d = 0) : upE (pkA V d) V.length d = 0 ∧ upA (pkA V d) V.length d = V := by
  unfold pkE at h
  unfold pkA
  by_cases hd : 0 ≤ d ∧ d ≤ 65536
  · simp only [if_pos hd] at h ⊢
    by_cases hb : badB 1 V d.toNat = true
    · rw [if_pos hb] at h; cases h
    · have hb' : badB 1 V d.toNat = false := by simpa using hb
      simp only [if_neg hb]
      unfold upE upA
      have h2 : (0 ≤ d ∧ d ≤ 65536) ∧ (0 : Int) ≤ (V.length : Int) := ⟨hd, by omega⟩
      have h3 : (pk V d.toNat).length = many ((V.length : Int)).toNat ∧ badB 8 (pk V d.toNat) d.toNat = false := ⟨by rw [pk_len]; simp, pk_bad _ _⟩
      rw [if_pos h2, if_pos h3, if_pos h2, if_pos h3]
      refine ⟨rfl, ?_⟩
      rw [Int.toNat_natCast]
      exact upk_pk V d.toNat hb'
  · rw [if_neg hd] at h; cases h
theorem pkA_err (V : List (List Nat)) (d : Int) (h : pkE V d ≠ 0) : pkA V d = [] := by
  unfold pkE at h
  unfold pkA
  by_cases hd : 0 ≤ d ∧ d ≤ 65536
  · simp only [if_pos hd] at h ⊢
    by_cases hb : badB 1 V d.toNat = true
    · rw [if_pos hb]
    · rw [if_neg hb] at h; exact absurd rfl h
  · rw [if_neg hd]
set_option maxRecDepth 100000 in
set_option maxHeartbeats 2000000 in
theorem law_turned (a : Option Addr) (c : Nat) (V : List (List Nat)) (d : Int) (w : World) (hl : V.length ≤ 5864062014804) (hlc : V.length ≤ c) (hr : RdS 1 w a V) :
    Calls Try.prog 5 #[.slice a V.length c, .int .i64 d] w fun e w' => e = .returned (.bool true) ∧ Keep w w' := by
  have h21 := begins_any w
  have h8 := fun (wx : World) (k : Keep w wx) => Pack_any a c V d wx hl hlc (hr.keep k)
  by_cases he : pkE V d = 0
  · obtain ⟨u1, u2⟩ := up_pk V d he
    have hpl : (pkA V d).length ≤ 17592186044416 := by have := pkA_len V d; unfold many at this; omega
    have h10 := fun (a1 : Option Addr) (c1 : Nat) (wx : World) (h : RdS 8 wx a1 (pkA V d)) => Unpack_any a1 c1 (pkA V d) (V.length : Int) d wx (by omega) hpl (fun _ => by rw [Int.toNat_natCast]; exact hl) h
    rw [u1, u2] at h10
    rw [he] at h8
    have h13 := fun (a1 : Option Addr) (c1 : Nat) (wx : World) (k : Keep w wx) (h : RdS 1 wx a1 V) => alike_eq a1 a c1 c V wx (by omega) h (hr.keep k)
    generalize pkA V d = P at *
    clear he hpl
    replace u1 : Hid _ := u1
    replace u2 : Hid _ := u2
    go_enter Try.func5, Try.ntmps5
    go_wp2_with (first
      | (go_at_call 21; refine h21.mono ?_; rintro e w1 ⟨rfl, k1⟩)
      | (go_at_call 8; refine (h8 _ k1).mono ?_; rintro e w2 ⟨a2, c2, rfl, hc2, r2, k2⟩; have k12 := k1.trans k2)
      | (go_at_call 10; refine (h10 _ _ _ r2).mono ?_; rintro e w3 ⟨a3, c3, rfl, hc3, r3, k3⟩; have k13 := k12.trans k3)
      | (go_at_call 13; refine (h13 _ _ _ k13 r3).mono ?_; rintro e w4 ⟨rfl, k4⟩))
    go_ret
    exact ⟨rfl, k13.trans k4⟩
  · have hB : (pkE V d == 0) = false := by simpa using he
    have hB2 : (pkE V d != 0) = true := by simpa using he
    rw [pkA_err V d he] at h8
    generalize pkE V d = pe at *
    clear he
    go_enter Try.func5, Try.ntmps5
    go_wp2_with (first
      | (go_at_call 21; refine h21.mono ?_; rintro e w1 ⟨rfl, k1⟩)
      | (go_at_call 8; refine (h8 _ k1).mono ?_; rintro e w2 ⟨a2, c2, rfl, hc2, r2, k2⟩; have k12 := k1.trans k2))
    go_ret
    exact ⟨rfl, k12⟩
end Go.Proofs.Ytolfaheabdedpaa
