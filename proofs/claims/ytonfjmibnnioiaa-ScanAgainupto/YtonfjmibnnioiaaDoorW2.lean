import Derived.Test.YtonfjmibnnioiaaDoorW1
set_option linter.unusedVariables false
set_option linter.unusedSimpArgs false
namespace Go.Proofs.YtonfjmibnnioiaaDoor
open Go.RowKit Go.Shelf
theorem ix_tw (l : List UInt8) (y : UInt8) (h : y ∈ l) : ixB l y = ((l.takeWhile (· ≠ y)).length : Nat) := by unfold ixB; rw [if_pos h]
theorem tw_take (l : List UInt8) (y : UInt8) : l.take (l.takeWhile (· ≠ y)).length = l.takeWhile (· ≠ y) := (List.prefix_iff_eq_take.1 (List.takeWhile_prefix _)).symm
theorem tw_le (l : List UInt8) (y : UInt8) : (l.takeWhile (· ≠ y)).length ≤ l.length := (List.takeWhile_sublist _).length_le
theorem pf_quote (l : List UInt8) : ([34] : List UInt8).isPrefixOf l = decide (l.head? = some 34) := by
  cases l with
  | nil => rfl
  | cons c r =>
    simp only [List.isPrefixOf, List.head?_cons, Option.some.injEq, Bool.and_true]
    rw [Bool.eq_iff_iff]; simp only [beq_iff_eq, decide_eq_true_eq]
    exact ⟨fun h => h.symm, fun h => h.symm⟩
set_option maxRecDepth 100000 in
set_option maxHeartbeats 1000000 in
theorem firstField_any (l : List UInt8) (y : UInt8) (w : World) (hs : l.length ≤ 1099511627770) : Calls Tryd.prog 40 #[.string ⟨l.toArray⟩, .int .u8 (y.toNat : Nat)] w fun e w' => e = .returned (uqV (ff l y)) ∧ Keep w w' := by
  have hP := HasPrefix_any l [34] w
  rw [pf_quote] at hP
  have hsz := sz_mk l
  by_cases hq : l.head? = some 34
  · rw [decide_eq_true hq] at hP
    cases l with
    | nil => cases hq
    | cons c r =>
      simp only [List.head?_cons, Option.some.injEq] at hq
      subst hq
      rw [ff_quote]
      have hU := undoubled_any 34 r w (by rw [List.length_cons] at hs; omega)
      obtain ⟨tt, m, ok, hq⟩ : ∃ tt m ok, ud r [] 1 = (tt, m, ok) := ⟨_, _, _, rfl⟩
      rw [hq] at hU ⊢
      unfold uqV at hU ⊢
      simp only [] at hU ⊢
      generalize (34 : UInt8) :: r = l at *
      clear hq
      generalize y.toNat = n at *
      go_enter Tryd.func40, Tryd.ntmps40
      go_wp2_with (first
        | (go_at_call 52; refine hP.mono ?_; rintro e' w0 ⟨rfl, hw0⟩; rw [hw0]; clear hw0)
        | (go_at_call 59; refine hU.mono ?_; rintro e' w2 ⟨rfl, k2⟩))
      go_ret3
      exact ⟨rfl, k2⟩
  · rw [decide_eq_false hq] at hP
    rw [ff_plain l y hq]
    have hI := IndexByte_any l y w
    have hC := Clone_any (l.takeWhile (· ≠ y)) w (by have := tw_le l y; omega)
    by_cases hm : y ∈ l
    · rw [ix_tw l y hm] at hI
      have hs1 := run_upto l (l.takeWhile (· ≠ y)).length (tw_le l y)
      rw [tw_take] at hs1
      have hle := tw_le l y
      generalize l.takeWhile (· ≠ y) = t at *
      unfold uqV
      simp only []
      have hpos : ((t.length : Int) < 0) = False := by simp
      clear hm hq
      generalize y.toNat = n at *
      go_enter Tryd.func40, Tryd.ntmps40
      go_wp2_with (first
        | rw [hs1]
        | (go_at_call 52; refine hP.mono ?_; rintro e' w0 ⟨rfl, hw0⟩; rw [hw0]; clear hw0)
        | (go_at_call 60; refine hI.mono ?_; rintro e' w0 ⟨rfl, hw0⟩; rw [hw0]; clear hw0)
        | (go_at_call 31; refine hC.mono ?_; rintro e' w2 ⟨rfl, k2⟩))
      go_ret3
      exact ⟨rfl, k2⟩
    · rw [tw_all l y hm] at hC ⊢
      have hix : ixB l y = -1 := by unfold ixB; rw [if_neg hm]
      rw [hix] at hI
      have hs1 := run_upto l l.length (Nat.le_refl _)
      rw [List.take_length] at hs1
      unfold uqV
      simp only []
      clear hm hq hix
      generalize y.toNat = n at *
      go_enter Tryd.func40, Tryd.ntmps40
      go_wp2_with (first
        | rw [hs1]
        | (go_at_call 52; refine hP.mono ?_; rintro e' w0 ⟨rfl, hw0⟩; rw [hw0]; clear hw0)
        | (go_at_call 60; refine hI.mono ?_; rintro e' w0 ⟨rfl, hw0⟩; rw [hw0]; clear hw0)
        | (go_at_call 31; refine hC.mono ?_; rintro e' w2 ⟨rfl, k2⟩))
      go_ret3
      exact ⟨rfl, k2⟩
theorem i9 : (Tryd.prog.info? 9).map (fun i => (i.zero, i.size, i.bytes)) = some (some (.string ⟨#[]⟩), 1, 16) := by kernel_rfl
/-- Texts as cells. -/
def SvL (L : List (List UInt8)) : List Value := L.map fun t => .string ⟨t.toArray⟩
theorem SvL_len (L : List (List UInt8)) : (SvL L).length = L.length := by simp [SvL]
theorem SvL_app (L M : List (List UInt8)) : SvL (L ++ M) = SvL L ++ SvL M := by simp [SvL]
def OwnS (B : Nat) (v : Value) (L : List (List UInt8)) (w : World) : Prop := w.ownsRow B 9 1 v L.length (SvL L)
theorem at1 {w : World} {g : Nat} {x0 : Value} {T : Nat} (h : w.heap[g]? = some (.cells #[x0] T (0, 0))) : ∀ j u, [x0][j]? = some u → w.cell? ((⟨g, 0, none⟩ : Addr).add j) = some u := by
  intro j u hj
  match j, hj with
  | 0, hj => simp at hj; subst hj; rw [show ((⟨g, 0, none⟩ : Addr).add 0) = ⟨g, 0, none⟩ by simp [Addr.add], cell_of_row _ _ 0 _ T (0, 0) h]; rfl
  | n + 1, hj => simp at hj
/-- What Fields answers. -/
def fdR (l : List UInt8) (y : UInt8) : (List (List UInt8)) × Nat × Nat := if mcB y = true then fd 0 l y [] else ([], 2, 0)
set_option maxRecDepth 100000 in
set_option maxHeartbeats 4000000 in
theorem Fields_any (l : List UInt8) (y : UInt8) (w : World) (hs : l.length ≤ 4294967000) : Calls Tryd.prog 17 #[.string ⟨l.toArray⟩, .int .u8 (y.toNat : Nat)] w fun e w' => ∃ v, e = .returned (.tuple #[v, .int .i64 ((fdR l y).2.1 : Nat), .int .i64 ((fdR l y).2.2 : Nat)]) ∧ OwnS w.heap.size v (fdR l y).1 w' ∧ Keep w w' := by
  have hM := mayCut_any y w
  have hsz := sz_mk l
  cases hy : mcB y with
  | false =>
    rw [hy] at hM
    have HR : Hid (fdR l y = ([], 2, 0)) := by unfold Hid fdR; rw [if_neg (by rw [hy]; decide)]
    generalize fdR l y = R at *
    clear hy
    generalize y.toNat = n at *
    go_enter Tryd.func17, Tryd.ntmps17
    go_wp2_with (go_at_call 39; refine hM.mono ?_; rintro e' w0 ⟨rfl, hw0⟩; rw [hw0]; clear hw0)
    go_ret3
    exact ⟨_, by rw [HR.out]; rfl, by rw [HR.out]; exact own_nil _ _ _ _, Keep.refl _⟩
  | true =>
    rw [hy] at hM
    have HR : Hid (fd 0 (l.drop 0) y [] = fdR l y) := by unfold Hid fdR; rw [if_pos hy]; rfl
    generalize fdR l y = R at *
    clear hy
    have hFF := fun (l : List UInt8) (w : World) (hs : l.length ≤ 1099511627770) => firstField_any l y w hs
    obtain ⟨n, hn⟩ : ∃ n, y.toNat = n := ⟨_, rfl⟩
    rw [hn] at hM hFF ⊢
    replace hn : Hid _ := hn
    replace hFF : Hid _ := hFF
    go_enter Tryd.func17, Tryd.ntmps17
    go_wp2_with (go_at_call 39; refine hM.mono ?_; rintro e' w0 ⟨rfl, hw0⟩; rw [hw0]; clear hw0)
    go_loopw [7, 8] (fun vl at' wr => ∃ (k : Nat) (acc : List (List UInt8)), at' = .int .i64 k ∧ k ≤ l.length ∧ acc.length ≤ k ∧ Keep w wr ∧ OwnS w.heap.size vl acc wr ∧ Hid (fd k (l.drop k) y acc = R)) (fun _ at' _ => l.length + 1 - (intOf at').toNat)
    case atStart => exact ⟨0, [], rfl, by omega, by simp, Keep.refl w, own_nil _ _ _ _, HR⟩
    case round =>
      obtain ⟨k, acc, rfl, hk, hac, kw, hO, H⟩ := hrel
      clear HR hM
      have kw' : Hid (Keep w wr) := kw
      have hsl := run_from l k hk
      have hC := H.out
      rw [fd_step] at hC
      have hF := hFF.out (l.drop k) wr (by rw [List.length_drop]; omega)
      have hle := ff_le (l.drop k) y
      rw [List.length_drop] at hle
      obtain ⟨t, m, ok, hff⟩ : ∃ t m ok, ff (l.drop k) y = (t, m, ok) := ⟨_, _, _, rfl⟩
      rw [hff] at hC hF hle
      simp only [] at hC hF hle
      unfold uqV at hF
      simp only [] at hF
      have hkb : k ≤ 4294967000 := by omega
      have hmb : m ≤ 4294967000 := by omega
      have HM : Hid (k + m ≤ l.length) := by have := hle.1; show _ ≤ _; omega
      replace hO : Hid _ := hO
      clear hle hff H kw
      cases ok with
      | false =>
        rw [if_pos rfl] at hC
        replace hC : Hid _ := hC
        go_wp2_with (first
          | rw [hsl]
          | (go_at_call 40; refine hF.mono ?_; rintro e' w2 ⟨rfl, k2⟩))
        go_ret3
        exact ⟨_, by rw [← hC.out]; rfl, by rw [← hC.out]; exact own_nil _ _ _ _, kw'.out.trans k2⟩
      | true =>
        rw [if_neg (by decide), List.drop_drop] at hC
        by_cases hlt : k + m < l.length
        · rw [drop_cons l (k + m) hlt] at hC
          simp only [] at hC
          have hx : ∀ w, (Instr.index 9 (.string ⟨l.toArray⟩) (.int .i64 ((k : Int) + (m : Int)))).run Tryd.prog w = .ok (.int .u8 ((l.getD (k + m) 0).toNat : Nat)) w := fun w => run_ix l (k + m) hlt w
          have hltc : decide ((k : Int) + (m : Int) < (l.length : Int)) = true := decide_eq_true (by omega)
          by_cases hby : l.getD (k + m) 0 = y
          · rw [if_neg (by simpa using hby)] at hC
            have hne : ((n : Int) != (n : Int)) = false := by simp
            rw [hby] at hx
            rw [hn.out] at hx
            have heq : (((k : Int) + (m : Int)) == (l.length : Int)) = false := by rw [beq_eq_false_iff_ne]; omega
            replace hC : Hid _ := hC
            have HLT : Hid (k + m < l.length) := hlt
            clear hlt hby
            go_wp2_with (first
              | rw [hsl]
              | rw [hw6]
              | (go_at_call 40; refine hF.mono ?_; rintro e' w2 ⟨rfl, k2⟩
                 obtain ⟨w6, hw6, k6, t6, s6⟩ := boxed w2 #[.string ⟨t.toArray⟩] 9
                 have kx : Hid (Keep wr w6) := k2.trans k6)
              | (at_builtin; refine wpList_appG Tryd.underlying32 i9 (by kernel_rfl) (by decide) (by decide) w.heap.size _ rfl _ _ rfl acc.length (SvL acc) [.string ⟨t.toArray⟩] _ rfl (own_keep hO.out kx.out) (kw'.out.trans kx.out).le ⟨w2.heap.size, 0, none⟩ 1 rfl rfl (at1 t6) (by simp [Value.oneCell']) (by omega) ?_; intro v7 w7 hO7 hg7
                 have kf : Hid (Keep w w7) := keep_grown (kw'.out.trans kx.out) (own_keep hO.out kx.out) hg7
                 have hOf : Hid (OwnS w.heap.size v7 (acc ++ [t]) w7) := by
                   show World.ownsRow _ _ _ _ _ _ _
                   rw [SvL_app, List.length_append, List.length_singleton]; exact hO7
                 clear hO7 hg7))
            go_roundw
            case rel => exact ⟨k + m + 1, acc ++ [t], by go_num, by have := HLT.out; omega, by rw [List.length_append, List.length_singleton]; omega, kf.out, hOf.out, hC.out⟩
            case measure => have := HLT.out; simp [intOf]; omega
          · rw [if_pos (by simpa using hby)] at hC
            have hne : (((l.getD (k + m) 0).toNat : Int) != (n : Int)) = true := by
              have := ub_eq (l.getD (k + m) 0) y
              rw [hn.out] at this
              rw [bne, this, decide_eq_false hby]; rfl
            generalize (l.getD (k + m) 0).toNat = nx at *
            replace hC : Hid _ := hC
            clear hby hlt
            go_wp2_with (first
              | rw [hsl]
              | (go_at_call 40; refine hF.mono ?_; rintro e' w2 ⟨rfl, k2⟩))
            go_ret3
            exact ⟨_, by rw [← hC.out]; rfl, by rw [← hC.out]; exact own_nil _ _ _ _, kw'.out.trans k2⟩
        · have hkm : k + m = l.length := by have := HM.out; omega
          rw [hkm, List.drop_length] at hC
          simp only [] at hC
          have hltc : decide ((k : Int) + (m : Int) < (l.length : Int)) = false := decide_eq_false (by omega)
          have heq : (((k : Int) + (m : Int)) == (l.length : Int)) = true := by rw [beq_iff_eq]; omega
          replace hC : Hid _ := hC
          clear hkm hlt
          go_wp2_with (first
            | rw [hsl]
            | rw [hw6]
            | (go_at_call 40; refine hF.mono ?_; rintro e' w2 ⟨rfl, k2⟩
               obtain ⟨w6, hw6, k6, t6, s6⟩ := boxed w2 #[.string ⟨t.toArray⟩] 9
               have kx : Hid (Keep wr w6) := k2.trans k6)
            | (at_builtin; refine wpList_appG Tryd.underlying32 i9 (by kernel_rfl) (by decide) (by decide) w.heap.size _ rfl _ _ rfl acc.length (SvL acc) [.string ⟨t.toArray⟩] _ rfl (own_keep hO.out kx.out) (kw'.out.trans kx.out).le ⟨w2.heap.size, 0, none⟩ 1 rfl rfl (at1 t6) (by simp [Value.oneCell']) (by omega) ?_; intro v7 w7 hO7 hg7
               have kf : Hid (Keep w w7) := keep_grown (kw'.out.trans kx.out) (own_keep hO.out kx.out) hg7
               have hOf : Hid (OwnS w.heap.size v7 (acc ++ [t]) w7) := by
                 show World.ownsRow _ _ _ _ _ _ _
                 rw [SvL_app, List.length_append, List.length_singleton]; exact hO7
               clear hO7 hg7))
          go_ret3
          exact ⟨_, by rw [← hC.out]; rfl, by rw [← hC.out]; exact hOf.out, kf.out⟩
end Go.Proofs.YtonfjmibnnioiaaDoor
