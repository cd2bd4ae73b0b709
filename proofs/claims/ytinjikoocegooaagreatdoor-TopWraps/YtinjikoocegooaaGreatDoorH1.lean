import Derived.Test.YtinjikoocegooaaGreatDoorProg
import Derived.Test.YtinjikoocegooaaGreatDoorN1
import Derived.WalkKit
import Derived.WalkSpells
import Derived.WalkLawsBesides
import Derived.Deep.Draws
import Derived.Deep.QuietTactic
import Derived.BigQuiet
import Derived.Laws.Externs
import Derived.Laws.CopyOwn
import Derived.Shelf.Abstract
import Derived.Deep.RegionLaw
import Derived.BigRegion
import Derived.Deep.RegionHeld3
import Derived.Test.YtinjikoocegooaaGreatDoorF1
set_option linter.unusedVariables false
set_option linter.unusedSimpArgs false
namespace Go.Proofs.YtinjikoocegooaaGreatDoor
open Go.RowKit Go.Shelf
/-- With how many bytes of names a text begins. -/
def rnF (s : ByteArray) : Nat → Nat → Nat
  | 0, k => k
  | f + 1, k => if k < s.size ∧ nmc (bt s k) = true then rnF s f (k + 1) else k
theorem rn_stop {s : ByteArray} : ∀ (f k : Nat), s.size ≤ k + f → k ≤ s.size → (rnF s f k < s.size → nmc (bt s (rnF s f k)) = false) ∧ rnF s f k ≤ s.size ∧ k ≤ rnF s f k ∧ ∀ j, k ≤ j → j < rnF s f k → nmc (bt s j) = true
  | 0, k, h, hk => by
    refine ⟨fun h1 => ?_, hk, Nat.le_refl _, fun j h1 h2 => ?_⟩
    · simp only [rnF] at h1; omega
    · simp only [rnF] at h2; omega
  | f + 1, k, h, hk => by
    rw [rnF]
    split
    · rename_i hc
      have hc1 := hc.1
      have ih := rn_stop (s := s) f (k + 1) (by omega) (by omega)
      refine ⟨ih.1, ih.2.1, by have := ih.2.2.1; omega, fun j h1 h2 => ?_⟩
      by_cases e : j = k
      · rw [e]; exact hc.2
      · exact ih.2.2.2 j (by omega) h2
    · rename_i hc
      refine ⟨fun h1 => ?_, hk, Nat.le_refl _, fun j h1 h2 => by omega⟩
      cases hb : nmc (bt s k) with
      | false => rfl
      | true => exact absurd ⟨h1, hb⟩ hc
def rnN (s : ByteArray) : Nat := rnF s s.size 0
theorem rn_name (s : ByteArray) : nameB s = (decide (1 ≤ s.size) && decide (s.size ≤ 64) && decide (rnN s = s.size)) := by
  have h := rn_stop (s := s) s.size 0 (by omega) (by omega)
  unfold nameB rnN
  rw [← Bool.decide_and, ← Bool.decide_and, decide_eq_decide]
  constructor
  · rintro ⟨h1, h2, h3⟩
    refine ⟨⟨h1, h2⟩, ?_⟩
    by_cases e : rnF s s.size 0 < s.size
    · have := h.1 e; rw [h3 _ e] at this; cases this
    · have := h.2.1; omega
  · rintro ⟨⟨h1, h2⟩, h3⟩
    exact ⟨h1, h2, fun j hj => h.2.2.2 j (by omega) (by omega)⟩
set_option maxRecDepth 100000 in
set_option maxHeartbeats 1000000 in
theorem run_any (s : ByteArray) (w : World) (hT : Kt w) (hs : s.size ≤ 281474976710656) : Calls Tryz.prog 86 #[.string s, .func (.func 87) #[] #[]] w fun e w' => e = .returned (.int .i64 (rnN s : Nat)) ∧ w' = w := by
  have HR : Hid (rnN s = rnF s s.size 0) := rfl
  go_enter Tryz.func86, Tryz.ntmps86
  go_wp2_with fail
  go_loop [5] (fun n => ∃ k : Nat, n = .int .i64 (k : Int) ∧ k ≤ s.size ∧ Hid (rnN s = rnF s (s.size - k) k)) (fun n => s.size - (intOf n).toNat)
  case atStart => exact ⟨0, rfl, by omega, HR⟩
  case round =>
    obtain ⟨k, rfl, hk, H⟩ := hrel
    by_cases hlt : k < s.size
    · have hltc : (k : Int) < (s.size : Int) := by omega
      have hx := run_bt s k hlt
      have hK := kindOf_any (bt s k) w hT (bt_lt s k)
      have H1 : Hid (rnF s (s.size - k) k = if nmc (bt s k) = true then rnF s (s.size - (k + 1)) (k + 1) else k) := by
        rw [show s.size - k = (s.size - (k + 1)) + 1 by omega, rnF]
        by_cases e : nmc (bt s k) = true
        · rw [if_pos ⟨hlt, e⟩, if_pos e]; rfl
        · rw [if_neg (fun h => e h.2), if_neg e]; rfl
      generalize bt s k = c at hx hK H1
      have HK : Hid (k < s.size) := hlt
      cases hb : nmc c with
      | true =>
        rw [hb] at hK H1
        clear hlt
        go_wp2_with (first
          | (go_at_call 103; refine hK.mono ?_; rintro e w0 ⟨⟨kk, rfl, hkk⟩, rfl⟩; replace hkk : Hid _ := hkk)
          | (go_at_call 87; refine (inName_any kk _).mono ?_; rintro e w0 ⟨rfl, rfl⟩; rw [hkk.out]))
        go_round
        case rel => exact ⟨k + 1, by go_num, by have := HK.out; omega, by unfold Hid; rw [H.out, H1.out, if_pos trivial]⟩
        case measure => have := HK.out; simp [intOf]; omega
      | false =>
        rw [hb] at hK H1
        clear hlt
        go_wp2_with (first
          | (go_at_call 103; refine hK.mono ?_; rintro e w0 ⟨⟨kk, rfl, hkk⟩, rfl⟩; replace hkk : Hid _ := hkk)
          | (go_at_call 87; refine (inName_any kk _).mono ?_; rintro e w0 ⟨rfl, rfl⟩; rw [hkk.out]))
        go_ret
        exact ⟨by rw [H.out, H1.out, if_neg (by simp)]; rfl, rfl⟩
    · have hltc : ¬ (k : Int) < (s.size : Int) := by omega
      obtain rfl : k = s.size := by omega
      have H1 : Hid (rnF s (s.size - s.size) s.size = s.size) := by rw [Nat.sub_self]; rfl
      go_wp2_with fail
      go_ret
      exact ⟨by rw [H.out, H1.out]; rfl, rfl⟩
theorem ba_empty (s : ByteArray) (h : 1 ≤ s.size) : s.toList.isEmpty = false := by
  rw [ByteArray.toList_eq]
  cases hl : s.data.toList with
  | nil =>
    have h1 : s.data.toList.length = s.size := Array.length_toList
    rw [hl, List.length_nil] at h1; omega
  | cons _ _ => rfl
theorem ba_empty2 (s : ByteArray) (h : ¬ 1 ≤ s.size) : s = ⟨#[]⟩ := by
  have h0 : s.size = 0 := by omega
  cases s with
  | mk d =>
    have : d.size = 0 := h0
    rw [Array.eq_empty_of_size_eq_zero this]
set_option maxRecDepth 100000 in
theorem Name_any (s : ByteArray) (w : World) (hT : Kt w) (hs : s.size ≤ 281474976710656) : Calls Tryz.prog 56 #[.string s] w fun e w' => e = .returned (.bool (nameB s)) ∧ w' = w := by
  have HN : Hid (nameB s = (decide (1 ≤ s.size) && decide (s.size ≤ 64) && decide (rnN s = s.size))) := rn_name s
  have hR := run_any s w hT hs
  by_cases h0 : 1 ≤ s.size
  · have he := ba_empty s h0
    by_cases h1 : s.size ≤ 64
    · have h1c : decide ((s.size : Int) ≤ 64) = true := decide_eq_true (by omega)
      have HE : Hid (((rnN s : Int) == (s.size : Int)) = decide (rnN s = s.size)) := by unfold Hid; rw [Bool.eq_iff_iff]; simp only [beq_iff_eq, decide_eq_true_eq]; omega
      rw [decide_eq_true h0, decide_eq_true h1] at HN
      clear h0 h1
      go_enter Tryz.func56, Tryz.ntmps56
      go_wp2_with (go_at_call 86; refine hR.mono ?_; rintro e w0 ⟨rfl, rfl⟩)
      go_ret
      refine ⟨?_, rfl⟩
      rw [HN.out, ← HE.out]; rfl
    · have h1c : decide ((s.size : Int) ≤ 64) = false := decide_eq_false (by omega)
      rw [decide_eq_false h1] at HN
      clear h0 h1
      go_enter Tryz.func56, Tryz.ntmps56
      go_wp2_with fail
      go_ret
      exact ⟨by rw [HN.out, Bool.and_false, Bool.false_and]; rfl, rfl⟩
  · obtain rfl := ba_empty2 s h0
    have HF : Hid (nameB ⟨#[]⟩ = false) := by unfold Hid; rw [HN.out]; rfl
    go_enter Tryz.func56, Tryz.ntmps56
    go_wp2_with fail
    go_ret
    exact ⟨by rw [HF.out]; rfl, rfl⟩
end Go.Proofs.YtinjikoocegooaaGreatDoor
set_option linter.unusedVariables false
set_option linter.unusedSimpArgs false
namespace Go.Proofs.YtinjikoocegooaaGreatDoor
open Go.RowKit Go.Shelf
/-- Does a number lie within? -/
def winB (n lo hi : Int) : Bool := decide (lo ≤ n) && decide (n ≤ hi)
theorem within_any (n lo hi : Int) (w : World) : Calls Tryz.prog 58 #[.int .i64 n, .int .i64 lo, .int .i64 hi] w fun e w' => e = .returned (.bool (winB n lo hi)) ∧ w' = w := by
  have H : Hid (winB n lo hi = (decide (lo ≤ n) && decide (n ≤ hi))) := rfl
  by_cases h : lo ≤ n
  · have hd : decide (lo ≤ n) = true := decide_eq_true h
    rw [hd] at H
    clear h
    go_enter Tryz.func58, Tryz.ntmps58
    go_wp2_with fail
    go_ret
    exact ⟨by rw [H.out, Bool.true_and]; rfl, rfl⟩
  · have hd : decide (lo ≤ n) = false := decide_eq_false h
    rw [hd] at H
    clear h
    go_enter Tryz.func58, Tryz.ntmps58
    go_wp2_with fail
    go_ret
    exact ⟨by rw [H.out, Bool.false_and]; rfl, rfl⟩
/-- Rules that lie in a block. -/
theorem rdR_of {w : World} {b : Nat} {cs : Array Value} {R : List Rl} (h : w.heap[b]? = some (.cells cs 101 (0, 0)))
    (hc : ∀ j, j < R.length → cs[j * 2]? = some (.int .i64 (R.getD j rl0).1) ∧ cs[j * 2 + 1]? = some (.func (.func (R.getD j rl0).2.1) #[] (R.getD j rl0).2.2)) : RdR w (some ⟨b, 0, none⟩) R := by
  intro j hj
  obtain ⟨h1, h2⟩ := hc j hj
  refine ⟨b, 0, rfl, ?_, ?_⟩
  · rw [Nat.zero_add, cell_of_row _ _ _ _ 101 (0, 0) h]; exact h1
  · rw [Nat.zero_add, cell_of_row _ _ _ _ 101 (0, 0) h]; exact h2
abbrev pv (g : Nat) : Value := .pointer (some ⟨g, 0, none⟩)
theorem hd1_ans {w : World} {g : Nat} {nm : ByteArray} {v1 v2 v3 v4 : Value} (h : w.heap[g]? = some (.cells #[.string nm, v1, v2, v3, v4] 26 (0, 0))) (hT : Kt w) (hs : nm.size ≤ 281474976710656) : Ans w (1, 55, #[pv g]) (nameB nm) := by
  refine ⟨fun wx => by kernel_rfl, fun wx k => ?_⟩
  obtain ⟨c0, -, -, -, -⟩ := cells5 (k.at h)
  have N := Name_any nm wx (hT.keep k) hs
  show Calls Tryz.prog 55 #[.pointer (some ⟨g, 0, none⟩)] wx _
  go_enter Tryz.func55, Tryz.ntmps55
  go_wp2_with (go_at_call 56; refine N.mono ?_; rintro e w0 ⟨rfl, rfl⟩)
  go_ret
  exact ⟨rfl, Keep.refl _⟩
theorem hd2_ans {w : World} {g F cf : Nat} {fa : Option Addr} {v0 v2 v3 v4 : Value} (h : w.heap[g]? = some (.cells #[v0, .slice fa F cf, v2, v3, v4] 26 (0, 0))) : Ans w (2, 57, #[pv g]) (winB F 1 65536) := by
  refine ⟨fun wx => by kernel_rfl, fun wx k => ?_⟩
  obtain ⟨-, c1, -, -, -⟩ := cells5 (k.at h)
  show Calls Tryz.prog 57 #[.pointer (some ⟨g, 0, none⟩)] wx _
  go_enter Tryz.func57, Tryz.ntmps57
  go_wp2_with (go_at_call 58; refine (within_any _ _ _ _).mono ?_; rintro e w0 ⟨rfl, rfl⟩)
  go_ret
  exact ⟨rfl, Keep.refl _⟩
theorem ct1_ans {w : World} {g : Nat} {N : Int} {v0 v1 v3 v4 : Value} (h : w.heap[g]? = some (.cells #[v0, v1, .int .i64 N, v3, v4] 26 (0, 0))) : Ans w (5, 61, #[pv g]) (winB N 1 64) := by
  refine ⟨fun wx => by kernel_rfl, fun wx k => ?_⟩
  obtain ⟨-, -, c2, -, -⟩ := cells5 (k.at h)
  show Calls Tryz.prog 61 #[.pointer (some ⟨g, 0, none⟩)] wx _
  go_enter Tryz.func61, Tryz.ntmps61
  go_wp2_with (go_at_call 58; refine (within_any _ _ _ _).mono ?_; rintro e w0 ⟨rfl, rfl⟩)
  go_ret
  exact ⟨rfl, Keep.refl _⟩
theorem ct2_ans {w : World} {g bl cb : Nat} {ba : Option Addr} {N : Int} {v0 v1 v4 : Value} (h : w.heap[g]? = some (.cells #[v0, v1, .int .i64 N, .slice ba bl cb, v4] 26 (0, 0))) : Ans w (6, 62, #[pv g]) ((bl : Int) == N) := by
  refine ⟨fun wx => by kernel_rfl, fun wx k => ?_⟩
  obtain ⟨-, -, c2, c3, -⟩ := cells5 (k.at h)
  show Calls Tryz.prog 62 #[.pointer (some ⟨g, 0, none⟩)] wx _
  go_enter Tryz.func62, Tryz.ntmps62
  go_wp2_with fail
  go_ret
  exact ⟨rfl, Keep.refl _⟩
theorem ct3_ans {w : World} {g tl ct : Nat} {ta : Option Addr} {v0 v1 v2 v3 : Value} (h : w.heap[g]? = some (.cells #[v0, v1, v2, v3, .slice ta tl ct] 26 (0, 0))) : Ans w (7, 63, #[pv g]) (decide ((tl : Int) ≤ 65536)) := by
  refine ⟨fun wx => by kernel_rfl, fun wx k => ?_⟩
  obtain ⟨-, -, -, -, c4⟩ := cells5 (k.at h)
  show Calls Tryz.prog 63 #[.pointer (some ⟨g, 0, none⟩)] wx _
  go_enter Tryz.func63, Tryz.ntmps63
  go_wp2_with fail
  go_ret
  exact ⟨rfl, Keep.refl _⟩
end Go.Proofs.YtinjikoocegooaaGreatDoor
