import Derived.Test.YtieheijcfiijmaaDoorProg
import Derived.Test.YtieheijcfiijmaaDoorZPM
import Derived.Deep.RegionLaw
import Derived.Shelf.Abstract
import Derived.Below
import Derived.WalkKit
import Derived.WalkSpells
import Derived.WalkLawsBesides
import Derived.Deep.Draws
import Derived.Deep.QuietTactic
import Derived.BigQuiet
import Derived.Laws.Externs
import Derived.Laws.CopyOwn
import Derived.BigRegion
import Derived.Laws.BitsAll
import Derived.Deep.RegionHeld3
import Derived.Deep.Cut
set_option linter.unusedVariables false
set_option linter.unusedSimpArgs false
namespace Go.Proofs.YtieheijcfiijmaaDoor
open Go.RowKit Go.Shelf
attribute [local go_sem] run_store_float
theorem SI.start (z E I : Nat) {W w1 : World} (k : Keep W w1) : SI z E I W [] [] (.slice none 0 0) w1 := ⟨k, OwnS.nil _ _ _, rfl, fun i hi => by simp at hi⟩
theorem row8 {T : Nat} {w : World} {g : Nat} {l : List Nat} (h : RowF T w g l) (f : Nat) (hf : f * 8 + 8 ≤ l.length) : w.cell? ⟨g, f * 8, none⟩ = some (.float .f64 (l.getD (f * 8) 0)) ∧ w.cell? ⟨g, f * 8 + 1, none⟩ = some (.float .f64 (l.getD (f * 8 + 1) 0)) ∧ w.cell? ⟨g, f * 8 + 2, none⟩ = some (.float .f64 (l.getD (f * 8 + 2) 0)) ∧ w.cell? ⟨g, f * 8 + 3, none⟩ = some (.float .f64 (l.getD (f * 8 + 3) 0)) ∧ w.cell? ⟨g, f * 8 + 4, none⟩ = some (.float .f64 (l.getD (f * 8 + 4) 0)) ∧ w.cell? ⟨g, f * 8 + 5, none⟩ = some (.float .f64 (l.getD (f * 8 + 5) 0)) ∧ w.cell? ⟨g, f * 8 + 6, none⟩ = some (.float .f64 (l.getD (f * 8 + 6) 0)) ∧ w.cell? ⟨g, f * 8 + 7, none⟩ = some (.float .f64 (l.getD (f * 8 + 7) 0)) ∧ w.frozen? ⟨g, f * 8, none⟩ = false ∧ w.frozen? ⟨g, f * 8 + 1, none⟩ = false ∧ w.frozen? ⟨g, f * 8 + 2, none⟩ = false ∧ w.frozen? ⟨g, f * 8 + 3, none⟩ = false ∧ w.frozen? ⟨g, f * 8 + 4, none⟩ = false ∧ w.frozen? ⟨g, f * 8 + 5, none⟩ = false ∧ w.frozen? ⟨g, f * 8 + 6, none⟩ = false ∧ w.frozen? ⟨g, f * 8 + 7, none⟩ = false :=
  ⟨h.cell _ (by omega), h.cell _ (by omega), h.cell _ (by omega), h.cell _ (by omega), h.cell _ (by omega), h.cell _ (by omega), h.cell _ (by omega), h.cell _ (by omega), frozen_of_row w g _ _ T h, frozen_of_row w g _ _ T h, frozen_of_row w g _ _ T h, frozen_of_row w g _ _ T h, frozen_of_row w g _ _ T h, frozen_of_row w g _ _ T h, frozen_of_row w g _ _ T h, frozen_of_row w g _ _ T h⟩
set_option maxRecDepth 100000 in
set_option maxHeartbeats 4000000 in
theorem Pack_ok (a : Option Addr) (c : Nat) (V : List (List Nat)) (d : Nat) (w : World) (hd : d ≤ 65536) (hl : V.length ≤ 5864062014804) (hlc : V.length ≤ c) (hr : RdS 1 w a V) (hb : badB 1 V d = false) :
    Calls Tryd.prog 15 #[.slice a V.length c, .int .i64 (d : Nat)] w fun e w' => ∃ a' c', e = .returned (.tuple #[.slice a' (pk V d).length c', .int .i64 0]) ∧ (pk V d).length ≤ c' ∧ RdS 8 w' a' (pk V d) ∧ Keep w w' := by
  have h22 := isMany_any (d : Int) w
  have e22 : (decide ((0 : Int) ≤ (d : Int)) && decide ((d : Int) ≤ 65536)) = true := by simp; omega
  rw [e22] at h22
  clear e22
  have h23 := firstWrong_any a c V d w (by omega) hr
  rw [hb] at h23
  have hall := fun j hj => badB_all hb j hj
  have HD : Hid (d ≤ 65536) := hd
  go_enter Tryd.func15, Tryd.ntmps15
  go_wp2_with (first
    | (go_at_call 27; refine h22.mono ?_; rintro e w0 ⟨rfl, rfl⟩)
    | (go_at_call 19; refine h23.mono ?_; rintro e w1 ⟨i, rfl, hi, k1⟩; have hi2 : i < 0 := Int.not_le.1 (of_decide_eq_false hi); clear hi))
  go_loopw [6, 7] (fun v i wr => ∃ (j : Nat) (K : List Sl), j ≤ many V.length ∧ i = .int .i64 ((8 * j : Nat) : Int) ∧ SI 8 65 59 w0 K ((pk V d).take j) v wr) (fun _ i _ => V.length + 8 - (intOf i).toNat)
  case atStart => exact ⟨0, [], by omega, rfl, SI.start 8 65 59 k1⟩
  case round =>
    obtain ⟨j, K, hj, rfl, hI⟩ := hrel
    by_cases hjl : 8 * j < V.length
    · have hjc : ((8 * j : Nat) : Int) < (V.length : Int) := by omega
      obtain ⟨b, o, rfl⟩ : ∃ b o, a = some ⟨b, o, none⟩ := by obtain ⟨b, o, _, _, _, e, _⟩ := hr 0 (by omega); exact ⟨b, o, e⟩
      have hjm : j < many V.length := by unfold many; omega
      have hg := grp_len V j
      have h24 := groupFrom_any b o c V.length (8 * j) (8 * j + (grp V j).length) wr hjl hlc (by omega) (by omega)
      rw [Nat.add_sub_cancel_left] at h24
      have hB := hI.k0.le
      have hU := hr.grp j
      have hKl : K.length + 1 ≤ 5864062014805 := by rw [hI.kl]; simp [pk_len]; unfold many; omega
      have HG : Hid ((grp V j).length = min 8 (V.length - 8 * j)) := hg
      clear hg
      go_wp2_with (first
        | (go_at_call 12; refine h24.mono ?_; rintro e w2 ⟨rfl, rfl⟩)
        | (at_builtin; fail)
        | (refine wpList_make51 _ rfl _ _ rfl d rfl rfl hd ?_; intro w3 r3 k3 s3))
      go_loopw [33] (fun i wr => ∃ f : Nat, f ≤ d ∧ i = .int .i64 f ∧ Keep w2 wr ∧ RowF 59 wr w2.heap.size (lnK V d j f)) (fun i _ => d - (intOf i).toNat)
      case atStart => exact ⟨0, by omega, rfl, k3, by rw [lnK_zero]; exact r3⟩
      case round =>
        obtain ⟨f, hf, rfl, kw, rw⟩ := hrel
        by_cases hfl : f < d
        · have hfc : (f : Int) < (d : Int) := by omega
          have h25 := lane_any b (o + 8 * j) (c - 8 * j) f (grp V j) wr (by have := HG.out; omega) (by have := HG.out; omega) (hU.keep (hI.k0.trans kw)) (fun q hq => by rw [grp_get V j q hq, hall (8 * j + q) (by have := HG.out; omega)]; omega)
          obtain ⟨X, hX⟩ : ∃ X : Nat → Nat, X = fun i => ((grp V j).getD (min i ((grp V j).length - 1)) []).getD f 0 := ⟨_, rfl⟩
          have HX : Hid (∀ i, i < 8 → X i = pkC V j (f * 8 + i)) := fun i hi => by rw [hX]; exact lane_pk V j f i hjl hi
          rw [← hX] at h25
          clear hX
          have HC : Hid (∀ w5, Keep wr w5 → RowF 59 w5 w2.heap.size (lnK V d j f)) := fun w5 k5 => rw.keep k5
          have h88 : f * 8 + 8 ≤ (lnK V d j f).length := by rw [lnK_len]; omega
          go_wp2_with (go_at_call 14; refine h25.mono ?_; rintro e w5 ⟨rfl, k5⟩; obtain ⟨g0, g1, g2, g3, g4, g5, g6, g7, z0, z1, z2, z3, z4, z5, z6, z7⟩ := row8 (HC.out w5 k5) f h88)
          go_roundw
          case rel =>
            refine ⟨f + 1, by omega, by go_num, (((((((((kw.trans k5).setCell (p := ⟨w2.heap.size, f * 8, none⟩) (Nat.le_refl _) (.float .f64 (X 0))).setCell (p := ⟨w2.heap.size, f * 8 + 1, none⟩) (Nat.le_refl _) (.float .f64 (X 1))).setCell (p := ⟨w2.heap.size, f * 8 + 2, none⟩) (Nat.le_refl _) (.float .f64 (X 2))).setCell (p := ⟨w2.heap.size, f * 8 + 3, none⟩) (Nat.le_refl _) (.float .f64 (X 3))).setCell (p := ⟨w2.heap.size, f * 8 + 4, none⟩) (Nat.le_refl _) (.float .f64 (X 4))).setCell (p := ⟨w2.heap.size, f * 8 + 5, none⟩) (Nat.le_refl _) (.float .f64 (X 5))).setCell (p := ⟨w2.heap.size, f * 8 + 6, none⟩) (Nat.le_refl _) (.float .f64 (X 6))).setCell (p := ⟨w2.heap.size, f * 8 + 7, none⟩) (Nat.le_refl _) (.float .f64 (X 7))), ?_⟩
            rw [← lnK_next V d j f X hfl HX.out]
            exact (((((((((rw.keep k5).set (f * 8) (X 0)).set (f * 8 + 1) (X 1)).set (f * 8 + 2) (X 2)).set (f * 8 + 3) (X 3)).set (f * 8 + 4) (X 4)).set (f * 8 + 5) (X 5)).set (f * 8 + 6) (X 6)).set (f * 8 + 7) (X 7))
          case measure => simp [intOf]; omega
        · have hfc : ¬ (f : Int) < (d : Int) := by omega
          obtain rfl : f = d := by omega
          rw [lnK_done] at rw
          have HT : Hid ((pk V f).take (j + 1) = (pk V f).take j ++ [tab (f * 8) (pkC V j)]) := pk_take V f j hjm
          have hit : Itm 8 59 w0.heap.size wr (some ⟨w2.heap.size, 0, none⟩, f, f) (tab (f * 8) (pkC V j)) := by
            refine ⟨(tab_len _ _).symm, Nat.le_refl _, ?_, ?_⟩
            · intro q hq
              exact ⟨w2.heap.size, 0, rfl, by rw [Nat.zero_add]; exact rw.cell q hq⟩
            · intro p hp
              simp only [Option.some.injEq] at hp
              subst hp
              exact ⟨hB, _, rw⟩
          go_wp2_with (at_builtin; refine wpList_appS Tryd.underlying61 i51 w0.heap.size _ rfl _ _ rfl K (some ⟨w2.heap.size, 0, none⟩, f, f) _ rfl (own_keep (own_keep hI.own kw) ((Keep.refl _).alloc _)) (Nat.le_trans hI.k0.le (Nat.le_trans kw.le ((Keep.refl _).alloc _).le)) _ _ rfl (newsS 65 _ (some ⟨w2.heap.size, 0, none⟩, f, f)) hKl ?_; intro v7 w7 o7 g7)
          go_roundw
          case rel => exact ⟨j + 1, _, hjm, by go_num, by rw [HT.out]; exact hI.next (by decide) (kw.trans ((Keep.refl _).alloc _)) (hit.keep ((Keep.refl _).alloc _)) o7 g7⟩
          case measure => simp [intOf]; omega
    · have hjc : ¬ ((8 * j : Nat) : Int) < (V.length : Int) := by omega
      have hjm : j = many V.length := by unfold many at hj ⊢; omega
      have HT : Hid ((pk V d).take j = pk V d) := by show _ = _; rw [hjm, ← pk_len V d, List.take_length]
      rw [HT.out] at hI
      obtain ⟨a', c', rfl, hc', hr'⟩ := hI.rd (fun i hi => by rw [pk_len] at hi; rw [pk_get V d i hi, tab_len]; omega)
      have kw := hI.k0
      go_wp2_with fail
      go_ret2
      exact ⟨a', c', rfl, hc', hr', kw⟩
end Go.Proofs.YtieheijcfiijmaaDoor
