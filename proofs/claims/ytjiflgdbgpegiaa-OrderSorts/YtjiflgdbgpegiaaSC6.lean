import Derived.Test.YtjiflgdbgpegiaaSC5
set_option linter.unusedVariables false
set_option linter.unusedSimpArgs false
namespace Go.Proofs.Ytjiflgdbgpegiaa
open Go.RowKit Go.Shelf
set_option maxRecDepth 100000 in
set_option maxHeartbeats 1000000 in
/-- Bits as numbers, in a row of one's own. -/
theorem list_any (p : Option Addr) (c n : Nat) (l : List Nat) (w : World) (hn : l.length = n) (hl : n ≤ 17592186044414) (hL : RdU w p l) :
    Calls Try.prog 38 #[.slice p n c] w fun e w' => ∃ v, e = .returned v ∧ w'.ownsRow w.heap.size 23 1 v n (UF l) ∧ Keep w w' := by
  have HL : Hid (∀ i, i < n → ∃ g o, p = some ⟨g, o, none⟩ ∧ w.cell? ⟨g, o + i, none⟩ = some (.int .u64 ((l.getD i 0 : Nat) : Int))) := fun i hi => hL i (by omega)
  have HN : Hid (l.length = n) := hn
  have hf := fun x wx => f64from x wx
  clear hL hn
  go_enter Try.func38, Try.ntmps38
  go_wp2_with fail
  go_loopw [3, 4] (fun v iv wr => ∃ i : Nat, iv = .int .i64 (i : Int) ∧ i ≤ n ∧ wr.ownsRow w.heap.size 23 1 v i (UF (l.take i)) ∧ Keep w wr) (fun _ iv _ => n - (intOf iv).toNat)
  case atStart => exact ⟨0, rfl, by omega, own_nil 23 1 _ _, Keep.refl _⟩
  case round =>
    obtain ⟨i, rfl, hi, hown, kw⟩ := hrel
    by_cases hin : i < n
    · have hic : (i : Int) < (n : Int) := by omega
      obtain ⟨g, o, rfl, cx0⟩ := HL.out i hin
      have cx := kw.cell cx0
      have htk : UF (l.take (i + 1)) = UF (l.take i) ++ UF [l.getD i 0] := by
        have : i < l.length := by rw [HN.out]; exact hin
        unfold UF
        rw [← List.map_append]
        congr 1
        rw [List.take_add_one]
        simp [List.getD, this]
      generalize l.getD i 0 = x at cx htk
      clear cx0
      go_wp2_with (at_builtin; refine wpList_appG Try.underlying62 i23 rfl w.heap.size _ rfl _ _ rfl i (UF (l.take i)) (UF [x]) _ rfl (own_keep hown ((Keep.refl _).alloc _)) (kw.alloc (Obj.cells #[.float .f64 x] 23)).le ⟨wr.heap.size, 0, none⟩ 1 rfl rfl (newsF wr x) (UF_one _) (by omega) ?_; intro v7 w7 o7 g7; have k7 := keep_grown (kw.alloc (Obj.cells #[.float .f64 x] 23)) (own_keep hown ((Keep.refl wr).alloc _)) g7)
      refine ⟨⟨i + 1, by go_num, by omega, by rw [htk]; exact o7, k7⟩, ?_⟩
      simp [intOf]; omega
    · have hic : ¬ (i : Int) < (n : Int) := by omega
      obtain rfl : i = n := by omega
      go_wp2_with fail
      go_ret
      refine ⟨_, rfl, ?_, kw⟩
      rw [← HN.out, List.take_length] at hown
      rw [← HN.out]
      exact hown
end Go.Proofs.Ytjiflgdbgpegiaa
