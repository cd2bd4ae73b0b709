import Derived.Test.YtaogjiffnebnkaaP10
import Derived.BigQuiet
import Derived.Deep.RegionHeld3
set_option linter.unusedVariables false
set_option linter.unusedSimpArgs false
namespace Go.Proofs.Ytaogjiffnebnkaa
open Go.RowKit Go.Shelf
theorem mk11 {a0 a1 a2 a3 a4 a5 a6 a7 a8 a9 a10 : Prop} (h0 : a0) (h1 : a1) (h2 : a2) (h3 : a3) (h4 : a4) (h5 : a5) (h6 : a6) (h7 : a7) (h8 : a8) (h9 : a9) (h10 : a10) : a0 ∧ a1 ∧ a2 ∧ a3 ∧ a4 ∧ a5 ∧ a6 ∧ a7 ∧ a8 ∧ a9 ∧ a10 := ⟨h0, h1, h2, h3, h4, h5, h6, h7, h8, h9, h10⟩
set_option maxRecDepth 100000 in
set_option maxHeartbeats 4000000 in
theorem Same_eq (a b : Option Addr) (ca cb : Nat) (L : List Ct) (w : World) (hLn : L.length ≤ 4194304) (ha : RdC w a L) (hb : RdC w b L) :
    Calls Try.prog 19 #[.slice a L.length ca, .slice b L.length cb] w fun e w' => e = .returned (.bool true) ∧ Keep w w' := by
  have hB := fun (x : Nat) (wx : World) => f64bits x wx
  go_enter Try.func19, Try.ntmps19
  go_wp2_with fail
  go_loopw [5] (fun iv wr => ∃ k : Nat, k ≤ L.length ∧ iv = .int .i64 k ∧ Keep w wr) (fun iv _ => L.length - (intOf iv).toNat)
  case atStart => exact ⟨0, by omega, rfl, Keep.refl w⟩
  case round =>
    obtain ⟨k, hk, rfl, kw⟩ := hrel
    by_cases hkl : k < L.length
    · have hkc : (k : Int) < (L.length : Int) := by omega
      obtain ⟨b1, o1, ca1, cp1, rfl, h1⟩ := (ha.keep kw) k hkl
      obtain ⟨b2, o2, ca2, cp2, rfl, h2⟩ := (hb.keep kw) k hkl
      generalize L.getD k cd0 = N at *
      obtain ⟨c0, c1, c2, c3, c4, r1, -, s1⟩ := h1
      obtain ⟨d0, d1, d2, d3, d4, r2, -, s2⟩ := h2
      have hI := fun (wx : World) (k : Keep wr wx) => rInts_any ca1 ca2 cp1 cp2 N.cs N.cs wx s1 (r1.keep k) (r2.keep k)
      rw [decide_eq_true rfl] at hI
      clear r1 r2
      go_wp2_with fail
      simp only [List.append_eq, List.cons_append, List.nil_append]
      have KD := (Keep.refl wr).drew
      have T0 := mk11 KD (KD.cell c0) (KD.cell c1) (KD.cell c2) (KD.cell c3) (KD.cell c4) (KD.cell d0) (KD.cell d1) (KD.cell d2) (KD.cell d3) (KD.cell d4)
      go_region_held3 (fun wx => Keep wr wx ∧ wx.cell? ⟨b1, o1 + k * 5, none⟩ = some (Value.float FloatKind.f64 N.th) ∧ wx.cell? ⟨b1, o1 + k * 5 + 1, none⟩ = some (Value.slice ca1 N.cs.length cp1) ∧ wx.cell? ⟨b1, o1 + k * 5 + 2, none⟩ = some (Value.int IntKind.i64 N.tr) ∧ wx.cell? ⟨b1, o1 + k * 5 + 3, none⟩ = some (Value.int IntKind.i64 N.fr) ∧ wx.cell? ⟨b1, o1 + k * 5 + 4, none⟩ = some (Value.int IntKind.i64 N.to) ∧ wx.cell? ⟨b2, o2 + k * 5, none⟩ = some (Value.float FloatKind.f64 N.th) ∧ wx.cell? ⟨b2, o2 + k * 5 + 1, none⟩ = some (Value.slice ca2 N.cs.length cp2) ∧ wx.cell? ⟨b2, o2 + k * 5 + 2, none⟩ = some (Value.int IntKind.i64 N.tr) ∧ wx.cell? ⟨b2, o2 + k * 5 + 3, none⟩ = some (Value.int IntKind.i64 N.fr) ∧ wx.cell? ⟨b2, o2 + k * 5 + 4, none⟩ = some (Value.int IntKind.i64 N.to)) (first | with_reducible exact T0 | with_reducible exact T1) (first | (go_at_call 40; refine (hI _ KD).mono ?_; rintro e w2 ⟨rfl, k2⟩; have K2 := KD.trans k2; have T1 := mk11 K2 (K2.cell c0) (K2.cell c1) (K2.cell c2) (K2.cell c3) (K2.cell c4) (K2.cell d0) (K2.cell d1) (K2.cell d2) (K2.cell d3) (K2.cell d4)))
      all_goals
        go_simp
        go_wp2_with fail
        go_roundw
        case rel => exact ⟨k + 1, by omega, by go_num, kw.trans K2⟩
        case measure => simp [intOf]; omega
    · have hkc : ¬ (k : Int) < (L.length : Int) := by omega
      go_wp2_with fail
      go_ret
      exact ⟨rfl, kw⟩
end Go.Proofs.Ytaogjiffnebnkaa
