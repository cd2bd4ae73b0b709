import Derived.Test.YtjiflgdbgpegiaaSC3
set_option linter.unusedVariables false
set_option linter.unusedSimpArgs false
namespace Go.Proofs.Ytjiflgdbgpegiaa
open Go.RowKit
/-- A list of numbers that can be read, nil or not. -/
def RdV (w : World) (p : Option Addr) (l : List Nat) : Prop := ∀ i, i < l.length → ∃ g o, p = some ⟨g, o, none⟩ ∧ w.cell? ⟨g, o + i, none⟩ = some (.float .f64 (l.getD i 0))
theorem Arr.rdv {w : World} {g : Nat} {l : List Nat} (h : Arr w g l) : RdV w (some ⟨g, 0, none⟩) l := fun i hi => ⟨g, 0, rfl, by rw [Nat.zero_add]; exact h.cell hi⟩
set_option maxRecDepth 100000 in
set_option maxHeartbeats 1000000 in
/-- Numbers and bits that are alike, one by one. -/
theorem are_any (p q : Option Addr) (c d n : Nat) (v l : List Nat) (w : World) (hv : v.length = n) (hn : l.length = n) (hl : n ≤ 17592186044416) (hk : ∀ i, i < n → Alk (v.getD i 0) (l.getD i 0)) (hV : RdV w p v) (hL : RdU w q l) :
    Calls Try.prog 39 #[.slice p n c, .slice q n d] w fun e w' => e = .returned (.bool true) ∧ ∃ k, w' = w.drewN k := by
  have HK : Hid (∀ i, i < n → Alk (v.getD i 0) (l.getD i 0)) := hk
  have HV : Hid (∀ i, i < n → ∃ g o, p = some ⟨g, o, none⟩ ∧ w.cell? ⟨g, o + i, none⟩ = some (.float .f64 (v.getD i 0))) := fun i hi => hV i (by omega)
  have HL : Hid (∀ i, i < n → ∃ g o, q = some ⟨g, o, none⟩ ∧ w.cell? ⟨g, o + i, none⟩ = some (.int .u64 ((l.getD i 0 : Nat) : Int))) := fun i hi => hL i (by omega)
  clear hk hV hL hv hn
  go_enter Try.func39, Try.ntmps39
  go_wp2_with fail
  go_loopw [5] (fun iv wr => ∃ i : Nat, iv = .int .i64 (i : Int) ∧ i ≤ n ∧ ∃ k, wr = w.drewN k) (fun iv _ => n - (intOf iv).toNat)
  case atStart => exact ⟨0, rfl, by omega, 0, rfl⟩
  case round =>
    obtain ⟨i, rfl, hi, k, rfl⟩ := hrel
    by_cases hin : i < n
    · have hic : (i : Int) < (n : Int) := by omega
      obtain ⟨g, o, rfl, cx⟩ := HV.out i hin
      obtain ⟨g2, o2, rfl, cy⟩ := HL.out i hin
      have hIs := fun wx => is_any (HK.out i hin) wx
      generalize v.getD i 0 = x at cx hIs
      generalize l.getD i 0 = y at cy hIs
      go_wp2_with fail
      refine wp_region_quiet_lit (by kernel_rfl) (by kernel_rfl) ?_
      iterate 10
        with_reducible refine wpQuiet_step ?_
        intro K hK
        go_simp
        first
          | (with_reducible refine hK _ ?_; clear hK K)
          | (with_reducible refine (if_neg ?_).mpr (hK _ ?_)
             · decide
             clear hK K)
          | (refine ⟨.bool true, fun aw => (hIs _).mono ?_, hK _ ?_⟩
             · rintro e w' ⟨rfl, rfl⟩; exact ⟨rfl, _, rfl⟩
             clear hK K)
          | (apply Exists.intro
             refine ⟨fun _ => ?_, hK _ ?_⟩
             · with_reducible rfl
             clear hK K)
      refine wpQuiet_nil ?_
      rintro _ ⟨nq, rfl⟩
      go_wp2_with fail
      refine ⟨⟨i + 1, by go_num, by omega, k + nq, by simp [World.drewN, Nat.add_assoc]⟩, ?_⟩
      simp [intOf]; omega
    · have hic : ¬ (i : Int) < (n : Int) := by omega
      go_wp2_with fail
      go_ret
      exact ⟨rfl, k, rfl⟩
end Go.Proofs.Ytjiflgdbgpegiaa
