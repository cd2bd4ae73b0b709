import Derived.Test.YtodegcobkngmlaaDoorCS1
import Derived.Test.YtodegcobkngmlaaDoorD3
import Derived.Test.YtodegcobkngmlaaDoorYX4
set_option linter.unusedVariables false
set_option linter.unusedSimpArgs false
namespace Go.Proofs.YtodegcobkngmlaaDoor
open Go.RowKit Go.Shelf
set_option maxRecDepth 100000 in
set_option maxHeartbeats 1000000 in
theorem valueOf_any (na ax : Option Addr) (nc cx : Nat) (L : List Nd) (xs : List Nat) (w : World) (hL : L.length ≤ 1759218604441) (hxl : xs.length ≤ 17592186044416) (hr : RdN w na L) (hx : RdF w ax xs) (hE : shE L = 0) (hft : ∀ i, i < L.length → ((L.getD i nd0).kd = 2 ∨ (L.getD i nd0).kd = 3) → 0 ≤ (L.getD i nd0).ft ∧ (L.getD i nd0).ft < (xs.length : Int)) :
    Calls Tryd.prog 31 #[.slice na L.length nc, .slice ax xs.length cx] w fun e w' => e = .returned (.int .i64 (L.getD (endN L xs) nd0).vl) ∧ Keep w w' := by
  obtain ⟨l0, hw1, hw2, hw3, hw4⟩ := way_last (xs := xs) hE
  have hR := shE_rgt hE
  have hG := fun (n : Nd) (ca : Option Addr) (cap x : Nat) (wx : World) (h1 : RdI wx ca n.cs) (h2 : n.cs.length ≤ 17592186044416) (h3 : n.cs.length ≤ cap) => Goes_any n ca cap x wx h1 h2 h3
  have hz : 0 < L.length := hR.1
  have hend : Hid (∀ f i pre, way (shp L) (chs L xs) L.length = pre ++ path (shp L) (chs L xs) f i → i < L.length → ((L.getD i nd0).kd = 1 ∧ endN L xs = i) ∨ (((L.getD i nd0).kd = 2 ∨ (L.getD i nd0).kd = 3) ∧ ∃ f', f = f' + 1 ∧ nxt (L.getD i nd0) xs = ((if chs L xs i = true then (shp L).A i else (shp L).B i : Nat) : Int) ∧ (if chs L xs i = true then (shp L).A i else (shp L).B i) < L.length ∧ way (shp L) (chs L xs) L.length = (pre ++ [i]) ++ path (shp L) (chs L xs) f' (if chs L xs i = true then (shp L).A i else (shp L).B i))) := by
    intro f i pre h hi
    by_cases hK : (shp L).K i = true
    · right
      have hk := of_decide_eq_true (show decide ((L.getD i nd0).kd = 2 ∨ (L.getD i nd0).kd = 3) = true from hK)
      refine ⟨hk, ?_⟩
      cases f with
      | zero =>
        rw [path, hw1] at h
        have := List.append_inj_right' h rfl
        simp at this
        rw [this, hK] at hw2
        cases hw2
      | succ f =>
        rw [path_inner hK] at h
        obtain ⟨⟨-, l6, -⟩, ⟨-, l7, -⟩⟩ := hR.kids hi hK
        exact ⟨f, rfl, nxt_chs hR xs hi hK, by split <;> assumption, by rw [h]; simp⟩
    · left
      have hK' : (shp L).K i = false := by simpa using hK
      rw [path_leaf hK', hw1] at h
      have := List.append_inj_right' h rfl
      simp at this
      refine ⟨?_, this⟩
      have hb := hR.2 i hi
      have hn : ¬ ((L.getD i nd0).kd = 2 ∨ (L.getD i nd0).kd = 3) := of_decide_eq_false (show decide ((L.getD i nd0).kd = 2 ∨ (L.getD i nd0).kd = 3) = false from hK')
      unfold rightB at hb
      by_cases h1 : (L.getD i nd0).kd = 1
      · exact h1
      · rw [if_neg h1, if_neg (fun q => hn (.inl q)), if_neg (fun q => hn (.inr q))] at hb
        cases hb
  have HW : Hid (way (shp L) (chs L xs) L.length = [] ++ path (shp L) (chs L xs) (L.length - 1) 0) := rfl
  replace hft : Hid _ := hft
  clear hw1 hw2 hw3 hw4
  obtain ⟨V, hV⟩ : ∃ V, (L.getD (endN L xs) nd0).vl = V := ⟨_, rfl⟩
  rw [hV]
  replace hV : Hid _ := hV
  go_enter Tryd.func31, Tryd.ntmps31
  go_wp2_with fail
  go_loopg [5] (L.length - 1) (fun gg s5 wr => ∃ (i f : Nat) (pre : List Nat), s5 = .int .i64 i ∧ i < L.length ∧ Hid (way (shp L) (chs L xs) L.length = pre ++ path (shp L) (chs L xs) f i) ∧ Keep w wr ∧ gg = f)
  case atStart => exact ⟨0, _, [], rfl, hz, HW, Keep.refl w, rfl⟩
  case round =>
    obtain ⟨i, f, pre, rfl, hi, H, kr, hgf⟩ := hrel
    replace hgf : Hid _ := hgf
    have hic : (i : Int) < (L.length : Int) := by omega
    obtain ⟨bn, on, ca, cap, rfl, hn⟩ := (hr.keep kr) i hi
    have c0 := hn.c0
    have c1 := hn.c1
    have c2 := hn.c2
    have c3 := hn.c3
    have c4 := hn.c4
    have c5 := hn.c5
    have c6 := hn.c6
    have c7 := hn.c7
    rcases hend.out _ i pre H.out hi with ⟨hk, he⟩ | ⟨hk, f', hf, hnx, hlt, hway⟩
    · have hkd : (((L.getD i nd0).kd : Int) != 1) = false := by rw [hk]; rfl
      have hv : (L.getD i nd0).vl = V := by rw [← hV.out, he]
      rw [hv] at c1
      clear hv
      generalize L.getD i nd0 = n at *
      go_wp2_with fail
      go_ret
      exact ⟨rfl, kr⟩
    · have hkd : (((L.getD i nd0).kd : Int) != 1) = true := by rw [bne_iff_ne]; omega
      have hfi := hft.out i hi hk
      have hGi := fun wx (q : Keep wr wx) x => hG (L.getD i nd0) ca cap x wx (hn.rd.keep q) hn.sz hn.cp
      obtain ⟨ft, hfe⟩ : ∃ ft : Nat, (L.getD i nd0).ft = (ft : Int) := ⟨_, (Int.toNat_of_nonneg hfi.1).symm⟩
      have hfl : ft < xs.length := by omega
      have hfc : (ft : Int) < (xs.length : Int) := by omega
      obtain ⟨bx, ox, rfl, cx0⟩ := (hx.keep kr) ft hfl
      have hnx2 : nxt (L.getD i nd0) xs = if gsS (L.getD i nd0) (xs.getD ft 0) = 1 then (L.getD i nd0).lf else (L.getD i nd0).rt := by unfold nxt; rw [hfe]; rfl
      have hGv : ∀ wx, Keep wr wx → Calls Tryd.prog 52 #[.agg #[.int .u8 (L.getD i nd0).kd, .int .i64 (ft : Int), .int .i64 (ft : Int), .float .f64 (L.getD i nd0).th, .slice ca (L.getD i nd0).cs.length cap, .int .u8 (L.getD i nd0).ms, .int .i64 (L.getD i nd0).lf, .int .i64 (L.getD i nd0).rt], .float .f64 (xs.getD ft 0)] wx (fun e w' => e = .returned (.int .u8 (gsS (L.getD i nd0) (xs.getD ft 0) : Nat)) ∧ Keep wx w') → True := fun _ _ _ => trivial
      clear hGv
      have hGw : ∀ wx, Keep wr wx → Calls Tryd.prog 52 #[.agg #[.int .u8 (L.getD i nd0).kd, .int .i64 (L.getD i nd0).vl, .int .i64 (ft : Int), .float .f64 (L.getD i nd0).th, .slice ca (L.getD i nd0).cs.length cap, .int .u8 (L.getD i nd0).ms, .int .i64 (L.getD i nd0).lf, .int .i64 (L.getD i nd0).rt], .float .f64 (xs.getD ft 0)] wx (fun e w' => e = .returned (.int .u8 (gsS (L.getD i nd0) (xs.getD ft 0) : Nat)) ∧ Keep wx w') := by
        intro wx q
        have h := hGi wx q (xs.getD ft 0)
        unfold Nd.v at h
        rw [hfe] at h
        exact h
      rw [hfe] at c2
      have Hw : Hid (way (shp L) (chs L xs) L.length = pre ++ [i] ++ path (shp L) (chs L xs) f' (if chs L xs i = true then (shp L).A i else (shp L).B i)) := hway
      have Hl : Hid ((if chs L xs i = true then (shp L).A i else (shp L).B i) < L.length) := hlt
      have Hx : Hid ((if gsS (L.getD i nd0) (xs.getD ft 0) = 1 then (L.getD i nd0).lf else (L.getD i nd0).rt) = ((if chs L xs i = true then (shp L).A i else (shp L).B i : Nat) : Int)) := hnx2.symm.trans hnx
      have Hf : Hid (f = f' + 1) := hf
      clear hway hlt hnx2 hnx hf hGi hfi hft
      generalize (if chs L xs i = true then (shp L).A i else (shp L).B i) = j at *
      generalize hx0 : xs.getD ft 0 = xv at *
      clear hx0
      generalize gsS (L.getD i nd0) xv = gv at *
      generalize L.getD i nd0 = n at *
      go_wp2_with fail
      refine region_keep (Keep.refl wr) (by kernel_rfl) (by kernel_rfl) ?_
      repeat
        with_reducible refine wpQuiet_step ?_
        intro K hK
        go_simp
        first
          | (with_reducible refine hK _ ?_; clear hK K)
          | (apply Exists.intro
             with_reducible refine ⟨fun wx hC => ?_, hK _ ?_⟩
             · first
                 | with_reducible rfl
                 | with_reducible exact (hGw wx hC).mono fun e w'' h => ⟨h.1, hC.trans h.2⟩
                 | (have y0 := hC.cell c0; have y1 := hC.cell c1; have y2 := hC.cell c2; have y3 := hC.cell c3; have y4 := hC.cell c4; have y5 := hC.cell c5; have y6 := hC.cell c6; have y7 := hC.cell c7; have y8 := hC.cell cx0; go_simp; with_reducible rfl)
             clear hK K)
      with_reducible refine wpQuiet_nil ?_
      intro w3 k3
      have d6 := k3.cell c6
      have d7 := k3.cell c7
      go_simp
      by_cases hg : gv = 1
      · have hgc : ((gv : Int) == 1) = true := by rw [hg]; rfl
        have hl := Hx.out
        rw [if_pos hg] at hl
        rw [hl] at d6
        go_wp2_with fail
        go_roundg f'
        case measure => have := Hf.out; have := hgf.out; omega
        case rel => exact ⟨j, f', _, rfl, Hl.out, Hw, kr.trans k3, rfl⟩
      · have hgc : ((gv : Int) == 1) = false := by rw [beq_eq_false_iff_ne]; omega
        have hl := Hx.out
        rw [if_neg hg] at hl
        rw [hl] at d7
        go_wp2_with fail
        go_roundg f'
        case measure => have := Hf.out; have := hgf.out; omega
        case rel => exact ⟨j, f', _, rfl, Hl.out, Hw, kr.trans k3, rfl⟩
end Go.Proofs.YtodegcobkngmlaaDoor
