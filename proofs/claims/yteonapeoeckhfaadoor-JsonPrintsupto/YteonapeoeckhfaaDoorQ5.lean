import Derived.Test.YteonapeoeckhfaaDoorQ4
import Derived.Test.YteonapeoeckhfaaDoorJ6
import Derived.Test.YteonapeoeckhfaaDoorG2
set_option linter.unusedVariables false
set_option linter.unusedSimpArgs false
namespace Go.Proofs.YteonapeoeckhfaaDoor
open Go.RowKit Go.Shelf
set_option maxRecDepth 100000 in
theorem cut_from {w : World} {ta : Option Addr} {c : Nat} {s : List UInt8} (h : RdB w ta s) (hc : s.length ≤ c) {k : Nat} (hk : k ≤ s.length) :
    ∃ ad, (∀ wx, (Instr.slice 22 (.slice ta s.length c) (some (.int .i64 (k : Int))) none none).run Tryd.prog wx = .ok (.slice ad (s.length - k) (c - k)) wx) ∧ RdB w ad (s.drop k) := by
  refine ⟨if c = k then ta else ta.map (·.add (k * 1)), fun wx => ?_, ?_⟩
  · have h1 := run_slice_l (P := Tryd.prog) wx 22 ta s.length c Tryd.underlying22 .i64 (k : Int) (by omega) (by omega)
    have hs : (sizeOf (Tryd.prog.elem 22)).run Tryd.prog wx = .ok 1 wx := by rfl
    rw [hs] at h1
    exact h1
  · intro j hj
    have hj' : k + j < s.length := by rw [List.length_drop] at hj; omega
    obtain ⟨b, o, rfl, h1⟩ := h (k + j) hj'
    have e : (s.drop k).getD j 0 = s.getD (k + j) 0 := by simp [List.getD, List.getElem?_drop]
    rw [if_neg (by omega), e]
    refine ⟨b, o + k * 1, ?_, ?_⟩
    · rw [Option.map_some]
      congr 1
      unfold Addr.add
      split <;> simp_all
    · rw [show o + k * 1 + j = o + (k + j) by omega]; exact h1
set_option maxRecDepth 100000 in
set_option maxHeartbeats 4000000 in
theorem Right_any (l : List UInt8) (w : World) (hl : l.length ≤ 140737488355328) :
    Calls Tryd.prog 59 #[.string ⟨l.toArray⟩] w fun e w' => e = .returned (.bool (Lib.validD l)) ∧ Keep w w' := by
  obtain ⟨c, wz, hconv, kz, -, hrd, hc⟩ := bytes_of l w
  obtain ⟨ANS, hA⟩ : ∃ ANS, Lib.validD l = ANS := ⟨_, rfl⟩
  rw [hA]
  have HA : Hid (Lib.validD l = ANS) := hA
  obtain ⟨ta, hta⟩ : ∃ ta, (some ⟨w.heap.size, 0, none⟩ : Option Addr) = ta := ⟨_, rfl⟩
  rw [hta] at hconv hrd
  obtain ⟨n, hn⟩ : ∃ n, l.length = n := ⟨_, rfl⟩
  have HN : Hid (l.length = n) := hn
  have HC : Hid (l.length ≤ c) := hc
  rw [hn] at hconv hl
  clear hA hta hn hc
  go_enter Tryd.func59, Tryd.ntmps59
  go_wp2_with fail
  go_loopg [3] (n + 1) (fun gg s3 wx => ∃ (r : List UInt8) (ad : Option Addr) (m cp : Nat), s3 = .slice ad m cp ∧ Hid (r.length = m) ∧ m < gg ∧ m ≤ n ∧ Hid (m ≤ cp) ∧ Hid (RdB wz ad r) ∧ Hid (Lib.validD r = ANS) ∧ wx = wz)
  case atStart => exact ⟨l, ta, n, c, rfl, HN, by omega, by omega, by have := HN.out; have := HC.out; show _ ≤ _; omega, hrd, HA, rfl⟩
  case round =>
    obtain ⟨r, ad, m, cp, rfl, hr, hg, hm, hcp, hR, hV, rfl⟩ := hrel
    have hCh := Char_any r ad cp wr hR.out (by rw [hr.out]; omega)
    rw [hr.out] at hCh
    by_cases h0 : m = 0
    · subst h0
      have hre : r = [] := List.eq_nil_of_length_eq_zero hr.out
      have hT : Hid (ANS = true) := by
        have := hV.out
        rw [hre] at this
        exact this.symm
      clear hCh hre
      go_wp2_with fail
      go_ret
      exact ⟨ret_bool hT.out.symm, kz⟩
    · have hmz : ((m : Int) > 0) := by omega
      have hmd : decide ((0 : Int) < (m : Int)) = true := decide_eq_true (by omega)
      have hmn : 0 < m := by omega
      have hrne : r ≠ [] := by
        intro e
        have := hr.out
        rw [e] at this
        simp at this
        omega
      have hvd := validD_chr r
      rw [if_neg hrne, hV.out] at hvd
      have hcl := chr_le r
      obtain ⟨C, hC⟩ : ∃ C, chr r = C := ⟨_, rfl⟩
      rw [hC] at hCh hvd hcl
      rw [hr.out] at hcl
      by_cases hC0 : C = 0
      · rw [if_pos hC0] at hvd
        have hT : Hid (ANS = false) := hvd
        subst hC0
        clear hvd hC hrne
        go_wp2_with (go_at_call 66; refine hCh.mono ?_; clear hCh; rintro e w2 ⟨rfl, hz⟩; rw [hz]; clear hz w2)
        go_ret
        exact ⟨ret_bool hT.out.symm, kz⟩
      · rw [if_neg hC0] at hvd
        obtain ⟨ad2, hsl, hR2⟩ := cut_from (c := cp) hR.out (by rw [hr.out]; exact hcp.out) (k := C) (by rw [hr.out]; exact hcl)
        rw [hr.out] at hsl
        have hVD : Hid (Lib.validD (r.drop C) = ANS) := hvd.symm
        have HR2 : Hid (RdB wr ad2 (r.drop C)) := hR2
        have hL2 : Hid ((r.drop C).length = m - C) := by show _ = _; rw [List.length_drop, hr.out]
        have hCb : ((C : Int) == 0) = false := by rw [beq_eq_false_iff_ne]; omega
        have HCP : Hid (m - C ≤ cp - C) := by have := hcp.out; show _ ≤ _; omega
        have hd1 : Hid (m - C < m) := by show _ < _; omega
        clear hvd hC hrne hR2
        generalize m - C = m2 at hsl hL2 HCP hd1
        generalize cp - C = c2 at hsl HCP
        go_wp2_with (go_at_call 66; refine hCh.mono ?_; clear hCh; rintro e w2 ⟨rfl, hz⟩; rw [hz]; clear hz w2)
        go_roundg (m)
        case measure => omega
        case rel => exact ⟨_, ad2, m2, c2, rfl, hL2, hd1.out, by have := hd1.out; omega, HCP, HR2, hVD, rfl⟩
end Go.Proofs.YteonapeoeckhfaaDoor
