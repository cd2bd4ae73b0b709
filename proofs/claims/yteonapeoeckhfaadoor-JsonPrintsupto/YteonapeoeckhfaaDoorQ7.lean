import Derived.Test.YteonapeoeckhfaaDoorQ7M
set_option linter.unusedVariables false
set_option linter.unusedSimpArgs false
namespace Go.Proofs.YteonapeoeckhfaaDoor
open Go.RowKit Go.Shelf
set_option maxRecDepth 100000 in
set_option maxHeartbeats 4000000 in
theorem rform_in : ∀ (n : Nat) (j : J) (v : Value) (w : World), SizeOf.sizeOf j ≤ n → RdV w v j → blk j ≤ 1048576 →
    Calls Tryd.prog 37 #[v] w fun e w' => e = .returned (.bool (allJ plain j)) ∧ Keep w w' := by
  intro n
  induction n with
  | zero => intro j v w hs; cases j; simp at hs
  | succ n ih =>
    intro j v w hs hv hbl
    have hbt := blk_text j
    cases hv with
    | mk k t ns is an cn ai ci X hk hn ln li hx hr =>
    have hlt : ∀ i, i < is.length → SizeOf.sizeOf (is.getD i j0) ≤ n := fun i hi => by
      have := J.is_lt (a := .mk k t ns is) (i := i) hi
      simp only [J.is] at this
      omega
    have hbi : ∀ i, i < is.length → blk (is.getD i j0) ≤ 1048576 := fun i hi => by
      have := blk_item (j := .mk k t ns is) (i := i) hi
      simp only [J.is] at this
      omega
    obtain ⟨w0, hw0, k0, tb⟩ : ∃ w0, w.alloc (Obj.cells #[.int .u8 (k : Nat), .string t, .slice an ns.length cn, .slice ai is.length ci] 27) = w0 ∧ Keep w w0 ∧ w0.heap[w.heap.size]? = some (Obj.cells #[.int .u8 (k : Nat), .string t, .slice an ns.length cn, .slice ai is.length ci] 27 (0, 0)) := ⟨_, rfl, (Keep.refl w).alloc _, heap_alloc_new w _⟩
    have a0 := cell_of_row _ _ 0 _ 27 (0, 0) tb
    have a1 := cell_of_row _ _ 1 _ 27 (0, 0) tb
    have a2 := cell_of_row _ _ 2 _ 27 (0, 0) tb
    have a3 := cell_of_row _ _ 3 _ 27 (0, 0) tb
    simp only [List.getElem?_toArray, List.getElem?_cons_zero, List.getElem?_cons_succ] at a0 a1 a2 a3
    have hbd := plain_bd (k := k) (t := t) (ns := ns) (is := is)
    have hok := plain_ok (k := k) (t := t) (ns := ns) (is := is)
    have hnm := plain_num (t := t) (ns := ns) (is := is)
    have hne := plain_ne (t := t) (ns := ns) (is := is)
    obtain ⟨m, hm⟩ : ∃ m, is.length = m := ⟨_, rfl⟩
    have HM : Hid (is.length = m) := hm
    obtain ⟨nn, hnn⟩ : ∃ nn, ns.length = nn := ⟨_, rfl⟩
    have HNN : Hid (ns.length = nn) := hnn
    rw [hm, hnn] at hw0 hbd hnm hne
    rw [hm] at hok
    rw [hnn] at hok
    rw [hm] at a3
    rw [hnn] at a2
    rw [hm, hnn]
    rw [hm] at li
    rw [hnn] at ln
    have HW0 : Hid (w.alloc (Obj.cells #[.int .u8 (k : Nat), .string t, .slice an nn cn, .slice ai m ci] 27) = w0) := hw0
    clear hm hnn hw0 tb
    have hA : allJ plain (.mk k t ns is) = (plain (.mk k t ns is) && is.all (allJ plain)) := allJ_eq _ _
    obtain ⟨ANS, hANS⟩ : ∃ ANS, allJ plain (.mk k t ns is) = ANS := ⟨_, rfl⟩
    rw [hANS] at hA ⊢
    have hns : ∀ t ∈ ns, t.size ≤ 1048576 := fun u hu => by
      have := blk_name (j := .mk k t ns is) (t := u) hu
      omega
    simp only [J.t] at hbt
    have htz : t.size ≤ 1048576 := by omega
    obtain ⟨E, hEe⟩ : ∃ E, eT t = E := ⟨_, rfl⟩
    rw [hEe] at hbd hok hnm
    have hE2 : (t.toList == ByteArray.toList { data := #[] }) = E := hEe
    have hE4 : ByteArray.toList { data := #[] } = [] := by rw [ByteArray.toList_eq]
    have hE3 : t.toList.isEmpty = E := by
      rw [← hE2, hE4]
      cases t.toList <;> rfl
    clear hE2 hE4 hEe hANS hbl hs hbt
    obtain ⟨L, hL⟩ : ∃ L, decide (k = 6 ∨ k = 7) = L := ⟨_, rfl⟩
    obtain ⟨S, hS⟩ : ∃ S, decide (k = 4 ∨ k = 5) = S := ⟨_, rfl⟩
    obtain ⟨BD, hBD⟩ : ∃ BD, Bd k m nn E = BD := ⟨_, rfl⟩
    have HL : Hid (decide (k = 6 ∨ k = 7) = L) := hL
    have HS : Hid (decide (k = 4 ∨ k = 5) = S) := hS
    have HBD : Hid (Bd k m nn E = BD) := hBD
    clear hL hS hBD
    go_enter Tryd.func37, Tryd.ntmps37
    go_upto_region 1 with fail
    rw [HW0.out]
    go_cut [3] from 3 to 16 (fun s3 wx => s3 = .bool L ∧ wx = w0)
    case first =>
      clear hbd hok hnm hne hA hx hr ih hlt
      by_cases h6 : k = 6
      · have q : Hid (L = true) := HL.out.symm.trans (decide_eq_true (.inl h6))
        have hb : ((k : Int) == 6) = true := by rw [h6]; rfl
        clear h6
        go_wp2_with fail
        go_meet
        exact ⟨by rw [q.out], rfl⟩
      · have hb : ((k : Int) == 6) = false := by rw [beq_eq_false_iff_ne]; omega
        by_cases h7 : k = 7
        · have q : Hid (L = true) := HL.out.symm.trans (decide_eq_true (.inr h7))
          have hb7 : ((k : Int) == 7) = true := by rw [h7]; rfl
          clear h6 h7
          go_wp2_with fail
          go_meet
          exact ⟨by rw [q.out], rfl⟩
        · have q : Hid (L = false) := HL.out.symm.trans (decide_eq_false (by omega))
          have hb7 : ((k : Int) == 7) = false := by rw [beq_eq_false_iff_ne]; omega
          clear h6 h7
          go_wp2_with fail
          go_meet
          exact ⟨by rw [q.out], rfl⟩
    case rest =>
      obtain ⟨rfl, rfl⟩ := hcut
      go_upto_region 2 with fail
      go_cut [4] from 4 to 24 (fun s4 wx => s4 = .bool S ∧ wx = wc)
      case first =>
        clear hbd hok hnm hne hA hx hr ih hlt
        by_cases h6 : k = 4
        · have q : Hid (S = true) := HS.out.symm.trans (decide_eq_true (.inl h6))
          have hb : ((k : Int) == 4) = true := by rw [h6]; rfl
          clear h6
          go_wp2_with fail
          go_meet
          exact ⟨by rw [q.out], rfl⟩
        · have hb : ((k : Int) == 4) = false := by rw [beq_eq_false_iff_ne]; omega
          by_cases h7 : k = 5
          · have q : Hid (S = true) := HS.out.symm.trans (decide_eq_true (.inr h7))
            have hb7 : ((k : Int) == 5) = true := by rw [h7]; rfl
            clear h6 h7
            go_wp2_with fail
            go_meet
            exact ⟨by rw [q.out], rfl⟩
          · have q : Hid (S = false) := HS.out.symm.trans (decide_eq_false (by omega))
            have hb7 : ((k : Int) == 5) = false := by rw [beq_eq_false_iff_ne]; omega
            clear h6 h7
            go_wp2_with fail
            go_meet
            exact ⟨by rw [q.out], rfl⟩
      case rest =>
        obtain ⟨rfl, rfl⟩ := hcut
        go_upto_region 3 with fail
        go_cut [62] from 3 to 62 (fun s62 wx => s62 = .bool BD ∧ wx = wc)
        case first =>
          clear hbd hok hnm hne hA hx hr ih hlt
          have HBd : Hid (BD = (decide (k < 1) || decide (7 < k) || (!(decide (k = 6 ∨ k = 7)) && decide (0 < m)) || (decide (k ≠ 7) && decide (0 < nn)) || (!(decide (k = 4 ∨ k = 5)) && !E))) := HBD.out.symm
          by_cases g1 : k < 1
          · have z1 : (k : Int) < 1 := by omega
            have q : Hid (BD = true) := by show _ = _; rw [HBd.out, decide_eq_true g1]; simp
            clear g1
            go_wp2_with fail
            go_meet
            exact ⟨by rw [q.out], rfl⟩
          · have z1 : ¬ (k : Int) < 1 := by omega
            by_cases g2 : 7 < k
            · have z2 : (k : Int) > 7 := by omega
              have q : Hid (BD = true) := by show _ = _; rw [HBd.out, decide_eq_true g2]; simp
              clear g1 g2
              go_wp2_with fail
              go_meet
              exact ⟨by rw [q.out], rfl⟩
            · have z2 : ¬ (k : Int) > 7 := by omega
              have HB2 : Hid (BD = ((!(decide (k = 6 ∨ k = 7)) && decide (0 < m)) || (decide (k ≠ 7) && decide (0 < nn)) || (!(decide (k = 4 ∨ k = 5)) && !E))) := by
                show _ = _
                rw [HBd.out, decide_eq_false g1, decide_eq_false g2]; simp
              have h7b : ((k : Int) != 7) = decide (k ≠ 7) := by
                rw [Bool.eq_iff_iff, bne_iff_ne, decide_eq_true_iff]; omega
              clear g1 g2 HBd HBD
              rw [HL.out, HS.out] at HB2
              clear HL HS
              generalize decide (k ≠ 7) = N7 at HB2 h7b
              have hmz : ∀ b, decide (0 < m) = b → decide ((0 : Int) < (m : Int)) = b := fun b h => by rw [← h, Bool.eq_iff_iff, decide_eq_true_iff, decide_eq_true_iff]; omega
              have hnz : ∀ b, decide (0 < nn) = b → decide ((0 : Int) < (nn : Int)) = b := fun b h => by rw [← h, Bool.eq_iff_iff, decide_eq_true_iff, decide_eq_true_iff]; omega
              cases L with
              | true =>
                cases N7 with
                | false =>
                  cases S with
                  | true =>
                    have q : Hid (BD = false) := by show _ = _; rw [HB2.out]; rfl
                    go_wp2_with fail
                    go_meet
                    exact ⟨by rw [q.out], rfl⟩
                  | false =>
                    cases E with
                    | true =>
                      have q : Hid (BD = false) := by show _ = _; rw [HB2.out]; rfl
                      go_wp2_with fail
                      go_meet
                      exact ⟨by rw [q.out], rfl⟩
                    | false =>
                      have q : Hid (BD = true) := by show _ = _; rw [HB2.out]; rfl
                      go_wp2_with fail
                      go_meet
                      exact ⟨by rw [q.out], rfl⟩
                | true =>
                  cases hn0 : decide (0 < nn) with
                  | true =>
                    have hn1 := hnz _ hn0
                    have q : Hid (BD = true) := by show _ = _; rw [HB2.out, hn0]; rfl
                    go_wp2_with fail
                    go_meet
                    exact ⟨by rw [q.out], rfl⟩
                  | false =>
                    have hn1 := hnz _ hn0
                    cases S with
                    | true =>
                      have q : Hid (BD = false) := by show _ = _; rw [HB2.out, hn0]; rfl
                      go_wp2_with fail
                      go_meet
                      exact ⟨by rw [q.out], rfl⟩
                    | false =>
                      cases E with
                      | true =>
                        have q : Hid (BD = false) := by show _ = _; rw [HB2.out, hn0]; rfl
                        go_wp2_with fail
                        go_meet
                        exact ⟨by rw [q.out], rfl⟩
                      | false =>
                        have q : Hid (BD = true) := by show _ = _; rw [HB2.out, hn0]; rfl
                        go_wp2_with fail
                        go_meet
                        exact ⟨by rw [q.out], rfl⟩
              | false =>
                cases hm0 : decide (0 < m) with
                | true =>
                  have hm1 := hmz _ hm0
                  have q : Hid (BD = true) := by show _ = _; rw [HB2.out, hm0]; rfl
                  go_wp2_with fail
                  go_meet
                  exact ⟨by rw [q.out], rfl⟩
                | false =>
                  have hm1 := hmz _ hm0
                  cases N7 with
                  | false =>
                    cases S with
                    | true =>
                      have q : Hid (BD = false) := by show _ = _; rw [HB2.out, hm0]; rfl
                      go_wp2_with fail
                      go_meet
                      exact ⟨by rw [q.out], rfl⟩
                    | false =>
                      cases E with
                      | true =>
                        have q : Hid (BD = false) := by show _ = _; rw [HB2.out, hm0]; rfl
                        go_wp2_with fail
                        go_meet
                        exact ⟨by rw [q.out], rfl⟩
                      | false =>
                        have q : Hid (BD = true) := by show _ = _; rw [HB2.out, hm0]; rfl
                        go_wp2_with fail
                        go_meet
                        exact ⟨by rw [q.out], rfl⟩
                  | true =>
                    cases hn0 : decide (0 < nn) with
                    | true =>
                      have hn1 := hnz _ hn0
                      have q : Hid (BD = true) := by show _ = _; rw [HB2.out, hm0, hn0]; rfl
                      go_wp2_with fail
                      go_meet
                      exact ⟨by rw [q.out], rfl⟩
                    | false =>
                      have hn1 := hnz _ hn0
                      cases S with
                      | true =>
                        have q : Hid (BD = false) := by show _ = _; rw [HB2.out, hm0, hn0]; rfl
                        go_wp2_with fail
                        go_meet
                        exact ⟨by rw [q.out], rfl⟩
                      | false =>
                        cases E with
                        | true =>
                          have q : Hid (BD = false) := by show _ = _; rw [HB2.out, hm0, hn0]; rfl
                          go_wp2_with fail
                          go_meet
                          exact ⟨by rw [q.out], rfl⟩
                        | false =>
                          have q : Hid (BD = true) := by show _ = _; rw [HB2.out, hm0, hn0]; rfl
                          go_wp2_with fail
                          go_meet
                          exact ⟨by rw [q.out], rfl⟩
        case rest =>
          obtain ⟨rfl, rfl⟩ := hcut
          have hBDe := HBD.out
          cases BD with
          | true =>
            have hpf := hbd hBDe
            rw [hpf, Bool.false_and] at hA
            subst hA
            clear hbd hok hnm hne hx hr ih hlt
            go_wp2_with fail
            go_ret
            exact ⟨rfl, k0⟩
          | false =>
            by_cases h4 : k = 4
            · subst h4
              obtain ⟨hpn, his⟩ := hnm hBDe
              rw [hpn, his] at hA
              simp only [List.all_nil, Bool.and_true] at hA
              clear hbd hok hnm hne hx hr ih hlt his hpn
              obtain ⟨c, wz, hconv, kz, -, hrd, hcc⟩ := bytes_of t.data.toList wc
              rw [mk_dt] at hconv
              have hslen : t.data.toList.length ≤ 140737488355328 := by rw [Array.length_toList]; exact Nat.le_trans htz (by decide)
              have htl : Hid (t.data.toList.length = t.size) := Array.length_toList
              generalize hse : t.data.toList = s at *
              clear hse
              obtain ⟨ta, hta⟩ : ∃ ta, (some ⟨wc.heap.size, 0, none⟩ : Option Addr) = ta := ⟨_, rfl⟩
              rw [hta] at hconv hrd
              have HT : Hid (s.length = t.size) := htl
              rw [HT.out] at hconv
              have kz3 := (Keep.refl wz).alloc (Obj.cells #[.slice ta t.size c, .int .i64 0, .int .i64 0, .int .i64 0] 55)
              have bz3 := heap_alloc_new wz (Obj.cells #[.slice ta t.size c, .int .i64 0, .int .i64 0, .int .i64 0] 55)
              obtain ⟨w3, hw3⟩ : ∃ w3, wz.alloc (Obj.cells #[.slice ta t.size c, .int .i64 0, .int .i64 0, .int .i64 0] 55) = w3 := ⟨_, rfl⟩
              have HW3 : Hid (wz.alloc (Obj.cells #[.slice ta t.size c, .int .i64 0, .int .i64 0, .int .i64 0] 55) = w3) := hw3
              rw [hw3] at kz3 bz3
              have hRg : Rg w3 wz.heap.size ta c s 0 0 0 := ⟨by rw [HT.out]; exact bz3, fun j hj => by
                obtain ⟨tb, o, e, h⟩ := hrd j hj
                exact ⟨tb, o, e, kz3.cell h⟩⟩
              have hNu := rnumber_any wz.heap.size c 0 0 ta s w3 hslen hcc (Nat.zero_le _) hRg
              obtain ⟨okb, hok⟩ : ∃ okb, (num s 0).1 = okb := ⟨_, rfl⟩
              obtain ⟨K, hK⟩ : ∃ K, (num s 0).2 = K := ⟨_, rfl⟩
              have hAn : ANS = (okb && K == t.size) := by rw [hA]; unfold isNm; rw [hok, hK, HT.out]
              rw [hok, hK] at hNu
              have hzlt : wc.heap.size ≤ wz.heap.size := kz.le
              have hglt : w.heap.size < wc.heap.size := World.block_lt_of_cell? wc _ a0
              have q1 := (kz.trans kz3).cell a1
              clear hw3 hta hok hK hA htl hrd bz3 hRg
              go_wp2_with fail
              rw [HW3.out]
              go_wp2_with (go_at_call 49; refine hNu.mono ?_; clear hNu; rintro e w4 ⟨rfl, r4, o4⟩)
              have q4 := o4.cell q1 (by show w.heap.size ≠ wz.heap.size; omega)
              have kk : Hid (Keep w w4) := Kb.keep ((k0.trans kz).trans kz3) o4 (by have := k0.le; omega)
              have h8 := fun wx (kx : Keep w4 wx) => rok_any _ c K _ _ ta s wx (r4.keep kx)
              obtain ⟨-, r1, -⟩ := r4.cells
              clear r4 o4 q1
              cases okb with
              | true =>
                simp only [if_true] at h8
                have hb : ((K : Int) == (t.size : Int)) = ANS := by rw [hAn, Bool.true_and]; exact beqNat K t.size
                clear hAn
                refine region_keep (Keep.refl w4) (by kernel_rfl) (by kernel_rfl) ?_
                repeat
                  with_reducible refine wpQuiet_step ?_
                  intro K' hK'
                  go_simp
                  first
                    | (with_reducible refine hK' _ ?_; clear hK' K')
                    | (with_reducible refine (if_neg ?_).mpr (hK' _ ?_)
                       · decide
                       clear hK' K')
                    | (apply Exists.intro
                       with_reducible refine ⟨fun wx hC => ?_, hK' _ ?_⟩
                       · first
                           | with_reducible rfl
                           | with_reducible exact (h8 wx hC).mono fun e w'' h => ⟨h.1, h.2 ▸ hC⟩
                           | (have y0 := hC.cell q4; have y1 := hC.cell r1; go_simp; with_reducible rfl)
                       clear hK' K')
                with_reducible refine wpQuiet_nil ?_
                intro w9 k9
                go_wp2_with fail
                go_ret
                exact ⟨rfl, kk.out.trans k9⟩
              | false =>
                simp only [Bool.false_eq_true, if_false] at h8
                have hb : ANS = false := by rw [hAn]; rfl
                clear hAn
                subst hb
                refine region_keep (Keep.refl w4) (by kernel_rfl) (by kernel_rfl) ?_
                repeat
                  with_reducible refine wpQuiet_step ?_
                  intro K' hK'
                  go_simp
                  first
                    | (with_reducible refine hK' _ ?_; clear hK' K')
                    | (with_reducible refine (if_neg ?_).mpr (hK' _ ?_)
                       · decide
                       clear hK' K')
                    | (apply Exists.intro
                       with_reducible refine ⟨fun wx hC => ?_, hK' _ ?_⟩
                       · first
                           | with_reducible rfl
                           | with_reducible exact (h8 wx hC).mono fun e w'' h => ⟨h.1, h.2 ▸ hC⟩
                           | (have y0 := hC.cell q4; have y1 := hC.cell r1; go_simp; with_reducible rfl)
                       clear hK' K')
                with_reducible refine wpQuiet_nil ?_
                intro w9 k9
                go_wp2_with fail
                go_ret
                exact ⟨rfl, kk.out.trans k9⟩
            · have hb4 : ((k : Int) == 4) = false := by rw [beq_eq_false_iff_ne]; omega
              by_cases h77 : k = 7 ∧ nn ≠ m
              · obtain ⟨h7, hnm2⟩ := h77
                subst h7
                have hpf := hne hnm2
                rw [hpf, Bool.false_and] at hA
                subst hA
                have hnb : ((nn : Int) != (m : Int)) = true := by rw [bne_iff_ne]; omega
                clear hbd hok hnm hne hx hr ih hlt h4 hpf
                go_wp2_with fail
                go_ret
                exact ⟨rfl, k0⟩
              · have hpk := hok hBDe h4 (fun e => Classical.byContradiction fun q => h77 ⟨e, q⟩)
                rw [hpk] at hA
                have HA : Hid (ANS = ((vT t && ns.all vT) && is.all (allJ plain))) := hA
                have hRt := fun wx => Right_any t.data.toList wx (by rw [Array.length_toList]; exact Nat.le_trans htz (by decide))
                rw [mk_dt] at hRt
                have hRn := fun (u : ByteArray) (hu : u ∈ ns) wx => Right_any u.data.toList wx (by rw [Array.length_toList]; exact Nat.le_trans (hns u hu) (by decide))
                go_upto_region 9 with fail
                go_cut [96] from 85 to 96 (fun s96 wx => s96 = .bool false ∧ wx = wc)
                case first =>
                  clear hbd hok hnm hne hx hr ih hlt hRn
                  by_cases h7 : k = 7
                  · have hb7 : ((k : Int) == 7) = true := by rw [h7]; rfl
                    have hnme : nn = m := Classical.byContradiction fun q => h77 ⟨h7, q⟩
                    subst hnme
                    have hnb : ((nn : Int) != (nn : Int)) = false := by simp
                    clear h7 h77 hA hpk
                    go_wp2_with fail
                    go_meet
                    exact ⟨rfl, rfl⟩
                  · have hb7 : ((k : Int) == 7) = false := by rw [beq_eq_false_iff_ne]; omega
                    clear h7 h77 hA hpk
                    go_wp2_with fail
                    go_meet
                    exact ⟨rfl, rfl⟩
                case rest =>
                  rename_i wq
                  obtain ⟨rfl, rfl⟩ := hcut
                  clear hA hpk hbd hok hnm hne h77 h4 hb4
                  obtain ⟨B0, hB0⟩ : ∃ B0, vT t = B0 := ⟨_, rfl⟩
                  have HB0 : Hid (vT t = B0) := hB0
                  have hRt1 := hRt wc
                  change Calls Tryd.prog 59 #[.string t] wc (fun e w' => e = .returned (.bool (vT t)) ∧ Keep wc w') at hRt1
                  rw [hB0] at hRt1
                  clear hB0 hRt
                  go_wp2_with (go_at_call 59; refine hRt1.mono ?_; clear hRt1; rintro e w2 ⟨rfl, k2⟩)
                  have k02 := k0.trans k2
                  have e1 := k2.cell a1
                  have e2 := k2.cell a2
                  have e3 := k2.cell a3
                  clear a0 a1 a2 a3
                  go_loopg [6, 7] nn (fun gg s6 s7 wx => ∃ (i : Nat) (B : Bool), i ≤ nn ∧ gg = nn - i ∧ s7 = .int .i64 i ∧ s6 = .bool B ∧ Hid (B = (vT t && (ns.take i).all vT)) ∧ Keep w2 wx)
                  case atStart => exact ⟨0, B0, by omega, by omega, rfl, rfl, by show _ = _; rw [HB0.out]; simp, Keep.refl _⟩
                  case round =>
                    obtain ⟨i, B, hi, rfl, rfl, rfl, hB, kq⟩ := hrel
                    have f2 := kq.cell e2
                    by_cases hil : i < nn
                    · cases B with
                      | true =>
                        have hil2 : i < ns.length := by rw [HNN.out]; exact hil
                        obtain ⟨b, o, hae, hc⟩ := hn i hil2
                        have hc2 := (k02.trans kq).cell hc
                        obtain ⟨u, hu⟩ : ∃ u, ns.getD i ByteArray.empty = u := ⟨_, rfl⟩
                        have hum : u ∈ ns := by rw [← hu]; simp [List.getD, hil2]
                        have hRu := hRn u hum wr
                        rw [mk_dt] at hRu
                        change Calls Tryd.prog 59 #[.string u] wr (fun e w' => e = .returned (.bool (vT u)) ∧ Keep wr w') at hRu
                        have HB2 : Hid (vT u = (vT t && (ns.take (i + 1)).all vT)) := by
                          have e : ns.getD i ByteArray.empty = ns[i] := by simp [List.getD, hil2]
                          have h1 := hB.out
                          show _ = _
                          rw [List.take_succ_eq_append_getElem hil2, List.all_append, ← e, hu, ← Bool.and_assoc, ← h1]
                          simp
                        rw [hu] at hc2
                        subst hae
                        generalize vT u = V at hRu HB2
                        clear hx hr ih hlt hc hu hum hRn hB
                        go_wp2_with (go_at_call 59; refine hRu.mono ?_; clear hRu; rintro e w3 ⟨rfl, k3⟩)
                        go_roundg (nn - (i + 1))
                        case measure => omega
                        case rel => exact ⟨i + 1, V, by omega, rfl, by go_num, rfl, HB2, kq.trans k3⟩
                      | false =>
                        have HAF : Hid (ANS = false) := by
                          have h1 := hB.out
                          have h2 : (vT t && ns.all vT) = false := by
                            exact all_take_false h1
                          show _ = _
                          rw [HA.out, h2]; rfl
                        have krw := kq
                        clear hB hRn
                        go_wp2_with fail
                        go_loopg [6, 8] 1 (fun gg s6 s8 wx => gg = 1 ∧ s6 = .bool false ∧ s8 = .int .i64 0 ∧ Keep w2 wx)
                        case atStart => exact ⟨rfl, rfl, rfl, krw⟩
                        case round =>
                          obtain ⟨rfl, rfl, rfl, kq⟩ := hrel
                          have f3 := kq.cell e3
                          by_cases hm0 : (0 : Int) < (m : Int)
                          · clear hx hr ih hlt
                            go_wp2_with fail
                            go_ret
                            exact ⟨ret_bool HAF.out.symm, k02.trans kq⟩
                          · clear hx hr ih hlt
                            go_wp2_with fail
                            go_ret
                            exact ⟨ret_bool HAF.out.symm, k02.trans kq⟩
                    · obtain rfl : i = nn := by omega
                      have HTK : Hid (ns.take i = ns) := by show _ = _; rw [← HNN.out]; exact List.take_length
                      have HAA : Hid (ANS = (B && is.all (allJ plain))) := by show _ = _; rw [HA.out, hB.out, HTK.out]
                      have krw := kq
                      clear hB hRn
                      go_wp2_with fail
                      go_loopg [6, 8] m (fun gg s6 s8 wx => ∃ (q : Nat) (C : Bool), q ≤ m ∧ gg = m - q ∧ s8 = .int .i64 q ∧ s6 = .bool C ∧ Hid (C = (B && (is.take q).all (allJ plain))) ∧ Keep w2 wx)
                      case atStart => exact ⟨0, B, by omega, by omega, rfl, rfl, by show _ = _; simp, krw⟩
                      case round =>
                        obtain ⟨i, C, hi, rfl, rfl, rfl, hC, kq⟩ := hrel
                        have f3 := kq.cell e3
                        by_cases hil : i < m
                        · cases C with
                          | true =>
                            have hil2 : i < is.length := by rw [HM.out]; exact hil
                            obtain ⟨bb, oo, hae, hc0, hc1, hc2, hc3⟩ := hx i hil2
                            have kk := k02.trans kq
                            have g0 := Keep.cell kk hc0
                            have g1 := Keep.cell kk hc1
                            have g2 := Keep.cell kk hc2
                            have g3 := Keep.cell kk hc3
                            have hI := ih (is.getD i j0) _ wr (hlt i hil2) ((hr i hil2).keep kk) (hbi i hil2)
                            have HC2 : Hid (allJ plain (is.getD i j0) = (B && (is.take (i + 1)).all (allJ plain))) := by
                              have e : is.getD i j0 = is[i] := by simp [List.getD, hil2]
                              have h1 := hC.out
                              show _ = _
                              rw [List.take_succ_eq_append_getElem hil2, List.all_append, ← e, ← Bool.and_assoc, ← h1]
                              simp
                            subst hae
                            generalize allJ plain (is.getD i j0) = V at hI HC2
                            clear hx hr ih hlt hc0 hc1 hc2 hc3 hC
                            generalize (X i).1 = A0 at *
                            generalize (X i).2.1 = A1 at *
                            generalize (X i).2.2.1 = A2 at *
                            generalize (X i).2.2.2 = A3 at *
                            go_wp2_with (go_at_call 37; refine hI.mono ?_; clear hI; rintro e w3 ⟨rfl, k3⟩)
                            go_roundg (m - (i + 1))
                            case measure => omega
                            case rel => exact ⟨i + 1, V, by omega, rfl, by go_num, rfl, HC2, kq.trans k3⟩
                          | false =>
                            have HAF : Hid (ANS = false) := by
                              have h1 := hC.out
                              show _ = _
                              rw [HAA.out]
                              exact all_take_false h1
                            clear hx hr ih hlt hC
                            go_wp2_with fail
                            go_ret
                            exact ⟨ret_bool HAF.out.symm, k02.trans kq⟩
                        · obtain rfl : i = m := by omega
                          have HTK2 : Hid (is.take i = is) := by show _ = _; rw [← HM.out]; exact List.take_length
                          have HAF : Hid (ANS = C) := by show _ = _; rw [HAA.out, hC.out, HTK2.out]
                          clear hx hr ih hlt hC
                          go_wp2_with fail
                          go_ret
                          exact ⟨ret_bool HAF.out.symm, k02.trans kq⟩
end Go.Proofs.YteonapeoeckhfaaDoor
