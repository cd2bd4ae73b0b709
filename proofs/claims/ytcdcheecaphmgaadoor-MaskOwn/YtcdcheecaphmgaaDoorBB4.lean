import Derived.Test.YtcdcheecaphmgaaDoorProg
import Derived.Test.YtcdcheecaphmgaaDoorBB3
import Derived.WalkKit
import Derived.WalkSpells
import Derived.WalkLawsBesides
import Derived.Laws.CopyOwn
import Derived.Deep.Draws
import Derived.Deep.QuietTactic
import Derived.BigQuiet
import Derived.Deep.RegionWith
import Derived.Deep.RegionHeld3
set_option linter.unusedVariables false
set_option linter.unusedSimpArgs false
namespace Go.Proofs.YtcdcheecaphmgaaDoor.Bi
open Go.RowKit
/-- What has the bits of f, of n. -/
def mkl (n : Nat) (f : Nat → Bool) (l : List Nat) : Prop := l.length = (n + 63) / 64 ∧ W64 l ∧ ∀ i, hs l i = (decide (i < n) && f i)
theorem mkl_eq {n : Nat} {f : Nat → Bool} {l m : List Nat} (h1 : mkl n f l) (h2 : mkl n f m) : l = m :=
  hs_ext (h1.1.trans h2.1.symm) h1.2.1 h2.2.1 (fun i _ => by rw [h1.2.2, h2.2.2])
set_option maxRecDepth 100000 in
set_option maxHeartbeats 400000 in
theorem Mask_ok (n a b : Nat) (w : World) (hn : n ≤ 1048576) (hab : a ≤ b) (hbn : b ≤ n) :
    Calls Tryd.prog 28 #[.int .i64 (n : Nat), .int .i64 (a : Nat), .int .i64 (b : Nat)] w fun e w' => ∃ l : List Nat, e = .returned (.tuple #[.slice (some ⟨w.heap.size, 0, none⟩) l.length l.length, .int .i64 0]) ∧ Row w' w.heap.size l ∧ mkl n (fun i => !decide (a ≤ i ∧ i < b)) l ∧ Keep w w' := by
  have hE := Empty_ok n w hn
  obtain ⟨m, hm⟩ : ∃ m, (n + 63) / 64 = m := ⟨_, rfl⟩
  unfold mkl
  rw [hm] at hE ⊢
  have Hm : Hid ((n + 63) / 64 = m) := hm
  have hF1 : ∀ w1, Row w1 w.heap.size (List.replicate m 0) → _ := fun w1 h => fill_any w.heap.size m 0 a (List.replicate m 0) w1 h (by simp; omega) (W64_rep m) (by simp; omega)
  have hF2 : ∀ w1 l, l.length = m → W64 l → Row w1 w.heap.size l → _ := fun w1 l h1 h2 h => fill_any w.heap.size m b n l w1 h (by omega) h2 (by omega)
  have h1 : ¬ (a : Int) < 0 := by omega
  have h2 : ¬ (b : Int) < (a : Int) := by omega
  have h3 : ¬ (n : Int) < (b : Int) := by omega
  clear hm
  go_enter Tryd.func28, Tryd.ntmps28
  go_wp2_with (go_at_call 58; refine hE.mono ?_; rintro e w1 ⟨rfl, hr1, hk1, hs1⟩; clear hE)
  have h := hF1 w1 hr1
  rw [List.length_replicate] at h
  refine h.mono ?_
  rintro e w2 ⟨l2, rfl, hr2, hl2, hw2, hb2, hm2⟩
  go_wp2_with fail
  have h' := hF2 w2 l2 hl2 hw2 hr2
  rw [hl2] at h'
  refine h'.mono ?_
  rintro e w3 ⟨l3, rfl, hr3, hl3, hw3, hb3, hm3⟩
  have hl : l3.length = m := hl3
  go_wp2_with fail
  go_ret2
  refine ⟨l3, by rw [hl]; rfl, hr3, ⟨hl, hw3, ?_⟩, (hk1.mut hm2 (Nat.le_refl _)).mut hm3 (Nat.le_refl _)⟩
  intro i
  rw [hb3, hb2, hs_rep, Bool.false_or, ← Bool.decide_or, ← decide_not, ← Bool.decide_and, decide_eq_decide]
  omega
theorem Full_ok (n : Nat) (w : World) (hn : n ≤ 1048576) :
    Calls Tryd.prog 27 #[.int .i64 (n : Nat)] w fun e w' => ∃ l : List Nat, e = .returned (.tuple #[.slice (some ⟨w.heap.size, 0, none⟩) l.length l.length, .int .i64 0]) ∧ Row w' w.heap.size l ∧ mkl n (fun _ => true) l ∧ Keep w w' := by
  have h := Mask_ok n 0 0 w hn (by omega) (by omega)
  rw [show (fun i : Nat => !decide (0 ≤ i ∧ i < 0)) = fun _ => true by funext i; rw [decide_eq_false (by omega)]; rfl] at h
  go_enter Tryd.func27, Tryd.ntmps27
  go_wp2_with (go_at_call 28; refine h.mono ?_; rintro e w1 ⟨l, rfl, h1, h2, h3⟩)
  go_ret2
  exact ⟨l, rfl, h1, h2, h3⟩
/-- made, as words of these bits. -/
theorem made_mkl (n : Nat) (fr to : Int) (inb : Bool) (f : Nat → Bool) (w : World) (hn : n ≤ 1048576) (hf : ∀ i : Nat, i < n → ((decide (fr ≤ (i : Int)) && decide ((i : Int) < to)) == inb) = f i) :
    Calls Tryd.prog 69 #[.int .i64 (n : Nat), .int .i64 fr, .int .i64 to, .bool inb] w fun e w' => ∃ l : List Nat, e = .returned (.slice (some ⟨w.heap.size, 0, none⟩) l.length l.length) ∧ Row w' w.heap.size l ∧ mkl n f l ∧ Keep w w' := by
  refine (made_any n fr to inb w hn).mono ?_
  rintro e w' ⟨l, rfl, h1, h2, h3, h4, h5⟩
  refine ⟨l, by rw [h2], h1, ⟨h2, h3, ?_⟩, h5⟩
  intro i
  rw [h4]
  by_cases hi : i < n
  · rw [hf i hi]
  · rw [decide_eq_false hi, Bool.false_and, Bool.false_and]
theorem rMask_ok (n a b : Nat) (w : World) (hn : n ≤ 1048576) (hab : a ≤ b) (hbn : b ≤ n) :
    Calls Tryd.prog 40 #[.int .i64 (n : Nat), .int .i64 (a : Nat), .int .i64 (b : Nat)] w fun e w' => ∃ l : List Nat, e = .returned (.tuple #[.slice (some ⟨w.heap.size, 0, none⟩) l.length l.length, .int .i64 0]) ∧ Row w' w.heap.size l ∧ mkl n (fun i => !decide (a ≤ i ∧ i < b)) l ∧ Keep w w' := by
  have hM := made_mkl n (a : Int) (b : Int) false (fun i => !decide (a ≤ i ∧ i < b)) w hn (by
    intro i _
    rw [← Bool.decide_and]
    by_cases e : a ≤ i ∧ i < b
    · rw [decide_eq_true e, decide_eq_true (p := (a : Int) ≤ (i : Int) ∧ (i : Int) < (b : Int)) (by omega)]; rfl
    · rw [decide_eq_false e, decide_eq_false (p := (a : Int) ≤ (i : Int) ∧ (i : Int) < (b : Int)) (by omega)]; rfl)
  have g1 : ¬ (a : Int) < 0 := by omega
  have g2 : ¬ (b : Int) < (a : Int) := by omega
  have g3 : ¬ (n : Int) < (b : Int) := by omega
  have h4 : ¬ (1048576 : Int) < (n : Int) := by omega
  go_enter Tryd.func40, Tryd.ntmps40
  go_wp2_with (go_at_call 69; refine hM.mono ?_; rintro e w1 ⟨l, rfl, h1, h2, h3⟩)
  go_ret2
  exact ⟨l, rfl, h1, h2, h3⟩
theorem rFull_ok (n : Nat) (w : World) (hn : n ≤ 1048576) :
    Calls Tryd.prog 48 #[.int .i64 (n : Nat)] w fun e w' => ∃ l : List Nat, e = .returned (.tuple #[.slice (some ⟨w.heap.size, 0, none⟩) l.length l.length, .int .i64 0]) ∧ Row w' w.heap.size l ∧ mkl n (fun _ => true) l ∧ Keep w w' := by
  have hM := made_mkl n 0 0 false (fun _ => true) w hn (by
    intro i _
    rw [← Bool.decide_and, decide_eq_false (p := (0 : Int) ≤ (i : Int) ∧ (i : Int) < 0) (by omega)]; rfl)
  have h4 : ¬ (1048576 : Int) < (n : Int) := by omega
  go_enter Tryd.func48, Tryd.ntmps48
  go_wp2_with (go_at_call 69; refine hM.mono ?_; rintro e w1 ⟨l, rfl, h1, h2, h3⟩)
  go_ret2
  exact ⟨l, rfl, h1, h2, h3⟩
set_option maxRecDepth 100000 in
theorem Same_any (a b : Option Addr) (ca cb : Nat) (l : List Nat) (w : World) (hl : l.length ≤ 17592186044416) (ha : Rd w a l) (hb : Rd w b l) :
    Calls Tryd.prog 24 #[.slice a l.length ca, .slice b l.length cb] w fun e w' => e = .returned (.bool true) ∧ Keep w w' := by
  go_enter Tryd.func24, Tryd.ntmps24
  go_wp2_with fail

  go_loopw [13] (fun iv wr => ∃ k : Nat, k ≤ l.length ∧ iv = .int .i64 k ∧ Rd wr a l ∧ Rd wr b l ∧ Keep w wr) (fun iv _ => l.length - (intOf iv).toNat)
  case atStart => exact ⟨0, by omega, rfl, ha, hb, Keep.refl _⟩
  case round =>
    clear ha hb
    obtain ⟨k, hk, rfl, ha, hb, hkp⟩ := hrel
    by_cases hkl : k < l.length
    · obtain ⟨b1, o1, rfl, c1⟩ := ha k hkl
      obtain ⟨b2, o2, rfl, c2⟩ := hb k hkl
      generalize l.getD k 0 = v at c1 c2
      go_wp2_with fail
      go_quiet (fail)
      have ha' : Rd (wr.drewN nq) (some ⟨b1, o1, none⟩) l := ha
      have hb' : Rd (wr.drewN nq) (some ⟨b2, o2, none⟩) l := hb
      have hk' : Keep w (wr.drewN nq) := hkp.drewN nq
      clear ha hb hkp c1 c2
      generalize wr.drewN nq = w1 at ha' hb' hk' ⊢
      go_simp
      go_wp2_with fail
      go_roundw
      case rel => exact ⟨k + 1, by omega, by go_num, ha', hb', hk'⟩
      case measure => simp [intOf]; omega
    · go_wp2_with fail
      go_ret
      exact ⟨rfl, hkp⟩
end Go.Proofs.YtcdcheecaphmgaaDoor.Bi
