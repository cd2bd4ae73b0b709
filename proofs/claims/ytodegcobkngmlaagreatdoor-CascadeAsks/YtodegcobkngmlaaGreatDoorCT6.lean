import Derived.Test.YtodegcobkngmlaaGreatDoorCT2
import Derived.Test.YtodegcobkngmlaaGreatDoorCS8
import Derived.Deep.QuietTactic
set_option linter.unusedVariables false
set_option linter.unusedSimpArgs false
namespace Go.Proofs.YtodegcobkngmlaaGreatDoor
open Go.RowKit Go.Shelf
/-- Bounds that can be read. -/
def RdVB (w : World) (g : Nat) (l : List (Int × Int)) : Prop := ∀ o lo hi, o < l.length → l.getD o (0, 0) = (lo, hi) → w.cell? ⟨g, o * 2, none⟩ = some (.int .i64 lo) ∧ w.cell? ⟨g, o * 2 + 1, none⟩ = some (.int .i64 hi)
theorem RdVB.keep {w w' : World} {g : Nat} {l : List (Int × Int)} (h : RdVB w g l) (k : Keep w w') : RdVB w' g l := fun o lo hi ho hlh => ⟨k.cell (h o lo hi ho hlh).1, k.cell (h o lo hi ho hlh).2⟩
theorem bdF_snoc (l : List (Int × Int)) (o : Nat) : ∀ f p, bdF l o (f + 1) p = (bdF l o f p || bdB l o (p + f))
  | 0, p => by simp [bdF]
  | f + 1, p => by
    rw [bdF, bdF_snoc l o f (p + 1), bdF]
    split
    · rfl
    · rw [show p + 1 + f = p + (f + 1) by omega]
/-- What the reference says: the output, or -1. -/
def ceR (r : Nat × Bool) : Int := if r.2 = true then (r.1 : Int) else -1
set_option maxRecDepth 100000 in
set_option maxHeartbeats 4000000 in
theorem rcertain_any (g c : Nat) (l : List (Int × Int)) (w : World) (hl : l.length ≤ 64) (hg : RdVB w g l) :
    Calls Tryz.prog 15 #[.slice (some ⟨g, 0, none⟩) l.length c] w fun e w' => e = .returned (.int .i64 (ceR (grF l l.length 0))) ∧ Keep w w' := by
  obtain ⟨R, hR⟩ : ∃ R, grF l l.length 0 = R := ⟨_, rfl⟩
  rw [hR]
  have HR : Hid (R = grF l (l.length - 0) 0) := hR.symm
  clear hR
  obtain ⟨n, hn⟩ : ∃ n, l.length = n := ⟨_, rfl⟩
  have HN : Hid (l.length = n) := hn
  rw [hn] at hl HR ⊢
  clear hn
  go_enter Tryz.func15, Tryz.ntmps15
  go_wp2_with fail
  go_loopw [3] (fun iv wr => ∃ k : Nat, iv = .int .i64 k ∧ k ≤ n ∧ Hid (R = grF l (n - k) k) ∧ Keep w wr) (fun iv _ => n - (intOf iv).toNat)
  case atStart => exact ⟨0, rfl, by omega, HR, Keep.refl w⟩
  case round =>
    obtain ⟨o, rfl, hk, H, kr⟩ := hrel
    obtain ⟨wo, hwo⟩ : ∃ wo, wo = wr := ⟨_, rfl⟩
    subst hwo
    by_cases hkl : o < n
    · have hkc : (o : Int) < (n : Int) := by omega
      have H1 : Hid (R = if bdF l o n 0 = true then grF l (n - (o + 1)) (o + 1) else (o, true)) := by
        have h := H.out
        rw [show n - o = (n - (o + 1)) + 1 by omega, grF, HN.out] at h
        exact h
      have HO : Hid (o < n) := hkl
      obtain ⟨⟨lo, hi⟩, hlh⟩ : ∃ ab, l.getD o (0, 0) = ab := ⟨_, rfl⟩
      have HLH : Hid (l.getD o (0, 0) = (lo, hi)) := hlh
      have y0 := ((hg.keep kr) o lo hi (by rw [HN.out]; exact hkl) hlh).1
      clear hlh H hkl hk
      go_wp2_with fail
      go_loopw [4, 5] (fun bv iv ws => ∃ (p : Nat) (ok : Bool), bv = .bool ok ∧ iv = .int .i64 p ∧ p ≤ n ∧ Hid (ok = !(bdF l o p 0)) ∧ Keep wo ws) (fun _ iv _ => n - (intOf iv).toNat)
      case atStart => exact ⟨0, true, rfl, rfl, by omega, rfl, Keep.refl wo⟩
      case round =>
        obtain ⟨p, ok, rfl, rfl, hp, hok, ks⟩ := hrel
        by_cases hpl : p < n
        · have hpc : (p : Int) < (n : Int) := by omega
          have HP : Hid (p < n) := hpl
          obtain ⟨⟨lo', hi'⟩, hlh'⟩ : ∃ ab, l.getD p (0, 0) = ab := ⟨_, rfl⟩
          have z1 := ((hg.keep (kr.trans ks)) p lo' hi' (by rw [HN.out]; exact hpl) hlh').2
          have z0 := ks.cell y0
          have HD : Hid (bdB l o p = ((decide (p < o) && decide (lo ≤ hi')) || (decide (o < p) && decide (lo < hi')))) := by
            show _ = _
            unfold bdB
            rw [HLH.out, hlh']
          have HS : Hid (bdF l o (p + 1) 0 = (bdF l o p 0 || bdB l o p)) := by
            show _ = _
            rw [bdF_snoc, Nat.zero_add]
          clear hlh' hpl hp
          replace ks : Hid _ := ks
          rcases Nat.lt_trichotomy p o with h1 | h1 | h1
          · have c1 : decide ((p : Int) < (o : Int)) = true := decide_eq_true (by omega)
            have c1n : p < o := h1
            have c3 : decide ((p : Int) > (o : Int)) = false := decide_eq_false (by omega)
            have c3n : ¬ o < p := by omega
            by_cases h2 : lo ≤ hi'
            · have c2 : decide (lo ≤ hi') = true := decide_eq_true h2
              have HB : Hid (bdB l o p = true) := by unfold Hid; rw [HD.out, decide_eq_true h1, c2]; rfl
              clear h1 h2
              go_wp2_with fail
              try dsimp only [List.append]
              refine wp_region_quiet_lit (by kernel_rfl) (by kernel_rfl) ?_
              iterate 12
                with_reducible refine wpQuiet_step ?_
                intro K hK
                go_simp
                first
                  | (with_reducible refine hK _ ?_; clear hK K)
                  | (with_reducible refine (if_neg ?_).mpr (hK _ ?_)
                     · decide
                     clear hK K)
                  | (apply Exists.intro
                     refine ⟨fun _ => ?_, hK _ ?_⟩
                     · with_reducible rfl
                     clear hK K)
              as_aux_lemma =>
                iterate 12
                  with_reducible refine wpQuiet_step ?_
                  intro K hK
                  go_simp
                  first
                    | (with_reducible refine hK _ ?_; clear hK K)
                    | (with_reducible refine (if_neg ?_).mpr (hK _ ?_)
                       · decide
                       clear hK K)
                    | (apply Exists.intro
                       refine ⟨fun _ => ?_, hK _ ?_⟩
                       · with_reducible rfl
                       clear hK K)
                as_aux_lemma =>
                  iterate 10
                    with_reducible refine wpQuiet_step ?_
                    intro K hK
                    go_simp
                    first
                      | (with_reducible refine hK _ ?_; clear hK K)
                      | (with_reducible refine (if_neg ?_).mpr (hK _ ?_)
                         · decide
                         clear hK K)
                      | (apply Exists.intro
                         refine ⟨fun _ => ?_, hK _ ?_⟩
                         · with_reducible rfl
                         clear hK K)
                  as_aux_lemma =>
                    refine wpQuiet_nil ?_
                    rintro _ ⟨nq, rfl⟩
                    go_wp2_with fail
                    go_roundw
                    case rel => exact ⟨p + 1, false, rfl, by go_num, by have := HP.out; omega, by unfold Hid; rw [HS.out, HB.out]; simp, Keep.drewN (Hid.out ks) _⟩
                    case measure => have := HP.out; simp [intOf]; omega
            · have c2 : decide (lo ≤ hi') = false := decide_eq_false h2
              have HB : Hid (bdB l o p = false) := by unfold Hid; rw [HD.out, c2, decide_eq_false (show ¬ o < p by omega)]; simp
              clear h1 h2
              go_wp2_with fail
              try dsimp only [List.append]
              refine wp_region_quiet_lit (by kernel_rfl) (by kernel_rfl) ?_
              iterate 12
                with_reducible refine wpQuiet_step ?_
                intro K hK
                go_simp
                first
                  | (with_reducible refine hK _ ?_; clear hK K)
                  | (with_reducible refine (if_neg ?_).mpr (hK _ ?_)
                     · decide
                     clear hK K)
                  | (apply Exists.intro
                     refine ⟨fun _ => ?_, hK _ ?_⟩
                     · with_reducible rfl
                     clear hK K)
              as_aux_lemma =>
                iterate 12
                  with_reducible refine wpQuiet_step ?_
                  intro K hK
                  go_simp
                  first
                    | (with_reducible refine hK _ ?_; clear hK K)
                    | (with_reducible refine (if_neg ?_).mpr (hK _ ?_)
                       · decide
                       clear hK K)
                    | (apply Exists.intro
                       refine ⟨fun _ => ?_, hK _ ?_⟩
                       · with_reducible rfl
                       clear hK K)
                as_aux_lemma =>
                  iterate 10
                    with_reducible refine wpQuiet_step ?_
                    intro K hK
                    go_simp
                    first
                      | (with_reducible refine hK _ ?_; clear hK K)
                      | (with_reducible refine (if_neg ?_).mpr (hK _ ?_)
                         · decide
                         clear hK K)
                      | (apply Exists.intro
                         refine ⟨fun _ => ?_, hK _ ?_⟩
                         · with_reducible rfl
                         clear hK K)
                  as_aux_lemma =>
                    refine wpQuiet_nil ?_
                    rintro _ ⟨nq, rfl⟩
                    go_wp2_with fail
                    go_roundw
                    case rel => exact ⟨p + 1, ok, rfl, by go_num, by have := HP.out; omega, by unfold Hid; rw [HS.out, HB.out]; simp; exact hok.out, Keep.drewN (Hid.out ks) _⟩
                    case measure => have := HP.out; simp [intOf]; omega
          · have c1 : decide ((p : Int) < (o : Int)) = false := decide_eq_false (by omega)
            have c1n : ¬ p < o := by omega
            have c3 : decide ((p : Int) > (o : Int)) = false := decide_eq_false (by omega)
            have c3n : ¬ o < p := by omega
            have HB : Hid (bdB l o p = false) := by unfold Hid; rw [HD.out, decide_eq_false c1n, decide_eq_false c3n]; rfl
            clear h1
            go_wp2_with fail
            try dsimp only [List.append]
            refine wp_region_quiet_lit (by kernel_rfl) (by kernel_rfl) ?_
            iterate 12
              with_reducible refine wpQuiet_step ?_
              intro K hK
              go_simp
              first
                | (with_reducible refine hK _ ?_; clear hK K)
                | (with_reducible refine (if_neg ?_).mpr (hK _ ?_)
                   · decide
                   clear hK K)
                | (apply Exists.intro
                   refine ⟨fun _ => ?_, hK _ ?_⟩
                   · with_reducible rfl
                   clear hK K)
            as_aux_lemma =>
              iterate 12
                with_reducible refine wpQuiet_step ?_
                intro K hK
                go_simp
                first
                  | (with_reducible refine hK _ ?_; clear hK K)
                  | (with_reducible refine (if_neg ?_).mpr (hK _ ?_)
                     · decide
                     clear hK K)
                  | (apply Exists.intro
                     refine ⟨fun _ => ?_, hK _ ?_⟩
                     · with_reducible rfl
                     clear hK K)
              as_aux_lemma =>
                iterate 10
                  with_reducible refine wpQuiet_step ?_
                  intro K hK
                  go_simp
                  first
                    | (with_reducible refine hK _ ?_; clear hK K)
                    | (with_reducible refine (if_neg ?_).mpr (hK _ ?_)
                       · decide
                       clear hK K)
                    | (apply Exists.intro
                       refine ⟨fun _ => ?_, hK _ ?_⟩
                       · with_reducible rfl
                       clear hK K)
                as_aux_lemma =>
                  refine wpQuiet_nil ?_
                  rintro _ ⟨nq, rfl⟩
                  go_wp2_with fail
                  go_roundw
                  case rel => exact ⟨p + 1, ok, rfl, by go_num, by have := HP.out; omega, by unfold Hid; rw [HS.out, HB.out]; simp; exact hok.out, Keep.drewN (Hid.out ks) _⟩
                  case measure => have := HP.out; simp [intOf]; omega
          · have c1 : decide ((p : Int) < (o : Int)) = false := decide_eq_false (by omega)
            have c1n : ¬ p < o := by omega
            have c3 : decide ((p : Int) > (o : Int)) = true := decide_eq_true (by omega)
            have c3n : o < p := h1
            by_cases h2 : lo < hi'
            · have c2 : decide (lo < hi') = true := decide_eq_true h2
              have HB : Hid (bdB l o p = true) := by unfold Hid; rw [HD.out, decide_eq_true h1, c2, decide_eq_false c1n]; rfl
              clear h1 h2
              go_wp2_with fail
              try dsimp only [List.append]
              refine wp_region_quiet_lit (by kernel_rfl) (by kernel_rfl) ?_
              iterate 12
                with_reducible refine wpQuiet_step ?_
                intro K hK
                go_simp
                first
                  | (with_reducible refine hK _ ?_; clear hK K)
                  | (with_reducible refine (if_neg ?_).mpr (hK _ ?_)
                     · decide
                     clear hK K)
                  | (apply Exists.intro
                     refine ⟨fun _ => ?_, hK _ ?_⟩
                     · with_reducible rfl
                     clear hK K)
              as_aux_lemma =>
                iterate 12
                  with_reducible refine wpQuiet_step ?_
                  intro K hK
                  go_simp
                  first
                    | (with_reducible refine hK _ ?_; clear hK K)
                    | (with_reducible refine (if_neg ?_).mpr (hK _ ?_)
                       · decide
                       clear hK K)
                    | (apply Exists.intro
                       refine ⟨fun _ => ?_, hK _ ?_⟩
                       · with_reducible rfl
                       clear hK K)
                as_aux_lemma =>
                  iterate 10
                    with_reducible refine wpQuiet_step ?_
                    intro K hK
                    go_simp
                    first
                      | (with_reducible refine hK _ ?_; clear hK K)
                      | (with_reducible refine (if_neg ?_).mpr (hK _ ?_)
                         · decide
                         clear hK K)
                      | (apply Exists.intro
                         refine ⟨fun _ => ?_, hK _ ?_⟩
                         · with_reducible rfl
                         clear hK K)
                  as_aux_lemma =>
                    refine wpQuiet_nil ?_
                    rintro _ ⟨nq, rfl⟩
                    go_wp2_with fail
                    go_roundw
                    case rel => exact ⟨p + 1, false, rfl, by go_num, by have := HP.out; omega, by unfold Hid; rw [HS.out, HB.out]; simp, Keep.drewN (Hid.out ks) _⟩
                    case measure => have := HP.out; simp [intOf]; omega
            · have c2 : decide (lo < hi') = false := decide_eq_false h2
              have HB : Hid (bdB l o p = false) := by unfold Hid; rw [HD.out, c2, decide_eq_false c1n]; simp
              clear h1 h2
              go_wp2_with fail
              try dsimp only [List.append]
              refine wp_region_quiet_lit (by kernel_rfl) (by kernel_rfl) ?_
              iterate 12
                with_reducible refine wpQuiet_step ?_
                intro K hK
                go_simp
                first
                  | (with_reducible refine hK _ ?_; clear hK K)
                  | (with_reducible refine (if_neg ?_).mpr (hK _ ?_)
                     · decide
                     clear hK K)
                  | (apply Exists.intro
                     refine ⟨fun _ => ?_, hK _ ?_⟩
                     · with_reducible rfl
                     clear hK K)
              as_aux_lemma =>
                iterate 12
                  with_reducible refine wpQuiet_step ?_
                  intro K hK
                  go_simp
                  first
                    | (with_reducible refine hK _ ?_; clear hK K)
                    | (with_reducible refine (if_neg ?_).mpr (hK _ ?_)
                       · decide
                       clear hK K)
                    | (apply Exists.intro
                       refine ⟨fun _ => ?_, hK _ ?_⟩
                       · with_reducible rfl
                       clear hK K)
                as_aux_lemma =>
                  iterate 10
                    with_reducible refine wpQuiet_step ?_
                    intro K hK
                    go_simp
                    first
                      | (with_reducible refine hK _ ?_; clear hK K)
                      | (with_reducible refine (if_neg ?_).mpr (hK _ ?_)
                         · decide
                         clear hK K)
                      | (apply Exists.intro
                         refine ⟨fun _ => ?_, hK _ ?_⟩
                         · with_reducible rfl
                         clear hK K)
                  as_aux_lemma =>
                    refine wpQuiet_nil ?_
                    rintro _ ⟨nq, rfl⟩
                    go_wp2_with fail
                    go_roundw
                    case rel => exact ⟨p + 1, ok, rfl, by go_num, by have := HP.out; omega, by unfold Hid; rw [HS.out, HB.out]; simp; exact hok.out, Keep.drewN (Hid.out ks) _⟩
                    case measure => have := HP.out; simp [intOf]; omega
        · have hpc : ¬ (p : Int) < (n : Int) := by omega
          obtain rfl : p = n := by omega
          have kk := kr.trans ks
          cases ok with
          | true =>
            have hb : bdF l o p 0 = false := by simpa using hok.out
            have HQ : Hid (R = (o, true)) := by unfold Hid; rw [H1.out, if_neg (by rw [hb]; simp)]
            clear hb hok
            go_wp2_with fail
            go_ret
            exact ⟨by rw [HQ.out]; rfl, kk⟩
          | false =>
            have hb : bdF l o p 0 = true := by simpa using hok.out
            have HQ : Hid (R = grF l (p - (o + 1)) (o + 1)) := by unfold Hid; rw [H1.out, if_pos hb]
            clear hb hok
            go_wp2_with fail
            go_roundw
            case rel => exact ⟨o + 1, by go_num, by have := HO.out; omega, HQ, kk⟩
            case measure => have := HO.out; simp [intOf]; omega
    · have hkc : ¬ (o : Int) < (n : Int) := by omega
      have HQ : Hid (R = (0, false)) := by unfold Hid; rw [H.out, show n - o = 0 by omega, grF]
      go_wp2_with fail
      go_ret
      exact ⟨by rw [HQ.out]; rfl, kr⟩
end Go.Proofs.YtodegcobkngmlaaGreatDoor
