import Derived.Test.YtonfjmibnnioiaaDoorJ3
import Derived.Test.YtonfjmibnnioiaaDoorQ1
import Derived.Deep.CutBlock
import Derived.Deep.CutRange
set_option linter.unusedVariables false
set_option linter.unusedSimpArgs false
namespace Go.Proofs.YtonfjmibnnioiaaDoor
open Go.RowKit Go.Shelf
theorem jr_nl (y : UInt8) : ∀ (first : Bool) (L : List (List UInt8)) (acc : List UInt8), (∃ f ∈ L, hasNL f = true) → jr y first L acc = none
  | _, [], acc, ⟨f, hf, _⟩ => by simp at hf
  | first, g :: L, acc, ⟨f, hf, h⟩ => by
    unfold jr
    by_cases hg : hasNL g = true
    · rw [if_pos hg]
    · rw [if_neg hg]
      rcases List.mem_cons.1 hf with e | e
      · rw [e] at h; exact absurd h hg
      · exact jr_nl y false L _ ⟨f, e, h⟩
theorem has_no (f : List UInt8) (h : NoNL f f.length) : hasNL f = false := by
  unfold hasNL
  rw [List.any_eq_false]
  intro c hc
  obtain ⟨j, hj, rfl⟩ := List.getElem_of_mem hc
  have := h j hj
  simp [List.getD, hj] at this
  simp [this]
theorem has_yes (f : List UInt8) (j : Nat) (hj : j < f.length) (h : isNL (f.getD j 0) = true) : hasNL f = true := by
  unfold hasNL
  rw [List.any_eq_true]
  exact ⟨f[j], List.getElem_mem hj, by simpa [List.getD, hj] using h⟩
/-- Whether a field wants quotes, as far as its first j bytes tell. -/
def inF (f : List UInt8) (y : UInt8) (j : Nat) : Bool := decide (f.head? = some 34) || (f.take j).any (· == y)
theorem inF_next (f : List UInt8) (y : UInt8) (j : Nat) (h : j < f.length) : inF f y (j + 1) = (inF f y j || (f.getD j 0 == y)) := by
  unfold inF
  rw [List.take_add_one, List.getElem?_eq_getElem h, List.any_append]
  simp [List.getD, h, Bool.or_assoc]
theorem inF_all (f : List UInt8) (y : UInt8) : ft f y = if inF f y f.length = true then 34 :: (dbl f ++ [34]) else f := by
  unfold ft inF
  rw [List.take_length]
  by_cases h1 : y ∈ f
  · rw [if_neg (fun h => h.1 h1), if_pos]
    rw [Bool.or_eq_true]
    exact .inr (List.any_eq_true.2 ⟨y, h1, by simp⟩)
  · by_cases h2 : f.head? = some 34
    · rw [if_neg (fun h => h.2 h2), if_pos (by simp [h2])]
    · rw [if_pos ⟨h1, h2⟩, if_neg]
      rw [Bool.or_eq_true]
      rintro (h | h)
      · exact h2 (by simpa using h)
      · obtain ⟨x, hx, hy⟩ := List.any_eq_true.1 h
        exact h1 (by rw [← (by simpa using hy : x = y)]; exact hx)
theorem dbl_next (f : List UInt8) (j : Nat) (h : j < f.length) : dbl (f.take (j + 1)) = dbl (f.take j) ++ (if f.getD j 0 = 34 then [34, 34] else [f.getD j 0]) := by
  unfold dbl
  rw [List.take_add_one, List.getElem?_eq_getElem h, List.flatMap_append]
  simp [List.getD, h]
/-- append of a text to bytes of one's own. -/
theorem wpList_appS (B : Nat) (w : World) {ops : Array Oper} {rest : List Oper} {o : Oper} {a : Act} {Q : Exit → Act → World → Prop} (hgd : o.guard = none) (s x : Operand)
    (hop : o.op = .call { callee := .builtin .append, args := #[s, x], argTypes := #[58, 9] }) (t m : List UInt8) (v : Value) (hs : a.eval s = v) (hown : OwnB B v t w) (hB : B ≤ w.heap.size) (hx : a.eval x = .string ⟨m.toArray⟩) (hn : t.length + m.length ≤ 1099511627776)
    (hK : ∀ v' w', OwnB B v' (t ++ m) w' → w.grownBy w' v.ownBlock → wpList Tryd.prog ops Q rest (a.put o.dst v') w') :
    wpList Tryd.prog ops Q (o :: rest) a w := by
  obtain ⟨i0, hi, hz0, hz1, hz2⟩ := info_parts i5
  refine Lib.wpList_append_own_string _ hgd _ _ 58 9 hop B 5 i0 Tryd.underlying58 Tryd.underlying9 hi hz0 hz1 hz2 _ _ _ hs hown ⟨m.toArray⟩ hx (by unfold maxLen; rw [sz_mk]; omega) (by rw [sz_mk]; omega) hB ?_
  intro v' w' h2 h3 _
  refine hK v' w' ?_ h3
  have HS : Lib.strCells ⟨m.toArray⟩ = Lib.byteCells m := by rw [Lib.strCells_eq, dt_mk]
  show World.ownsRow _ _ _ _ _ _ _
  rw [bc_app, List.length_append]
  rw [HS, sz_mk] at h2
  exact h2
set_option maxRecDepth 100000 in
set_option maxHeartbeats 4000000 in
theorem rJoin_any (a : Option Addr) (c : Nat) (L : List (List UInt8)) (y : UInt8) (w : World) (hr : RdG w a (SvL L)) (hL : tl L ≤ 4294967000) : Calls Tryd.prog 20 #[.slice a L.length c, .int .u8 (y.toNat : Nat)] w fun e w' => e = .returned (.tuple #[.string ⟨(jnR L y).1.toArray⟩, .int .i64 ((jnR L y).2 : Nat)]) ∧ Keep w w' := by
  obtain ⟨R, hR⟩ : ∃ R, jnR L y = R := ⟨_, rfl⟩
  rw [hR]
  unfold jnR at hR
  obtain ⟨n, hn⟩ : ∃ n, L.length = n := ⟨_, rfl⟩
  have hnl : n ≤ 4294967000 := by have := len_tl L; omega
  obtain ⟨b1, hb1⟩ : ∃ b, decide (y = 34) = b := ⟨_, rfl⟩
  obtain ⟨b2, hb2⟩ : ∃ b, decide (y = 10) = b := ⟨_, rfl⟩
  obtain ⟨b3, hb3⟩ : ∃ b, decide (y = 13) = b := ⟨_, rfl⟩
  have e1 : ((y.toNat : Int) == 34) = b1 := by rw [← hb1, ← ub_eq y 34]; rfl
  have e2 : ((y.toNat : Int) == 10) = b2 := by rw [← hb2, ← ub_eq y 10]; rfl
  have e3 : ((y.toNat : Int) == 13) = b3 := by rw [← hb3, ← ub_eq y 13]; rfl
  have hmc : mcB y = (!b1 && !b3 && !b2) := by unfold mcB; rw [hb1, hb2, hb3]
  rw [hmc] at hR
  rw [hn]
  by_cases h1 : (!b1 && !b3 && !b2) = false
  · rw [if_pos h1] at hR
    subst hR
    clear hr hb1 hb2 hb3 hmc
    replace h1 : Hid _ := h1
    cases b1 <;> cases b2 <;> cases b3 <;> first
      | exact absurd h1.out (by decide)
      | (go_enter Tryd.func20, Tryd.ntmps20
         go_wp2_with fail
         go_ret2
         exact ⟨rfl, Keep.refl _⟩)
  · rw [if_neg h1] at hR
    obtain ⟨rfl, rfl, rfl⟩ : b1 = false ∧ b2 = false ∧ b3 = false := by revert h1; cases b1 <;> cases b2 <;> cases b3 <;> simp
    clear hb1 hb2 hb3 hmc h1
    replace hr : Hid _ := hr
    replace hL : Hid _ := hL
    replace hn : Hid _ := hn
    replace hR : Hid _ := hR
    go_enter Tryd.func20, Tryd.ntmps20
    go_wp2_with fail
    go_loopw [27] (fun iv wr => ∃ k : Nat, iv = .int .i64 k ∧ k ≤ n ∧ Keep w wr ∧ Hid (∀ j < k, hasNL (L.getD j []) = false)) (fun iv _ => n - (intOf iv).toNat)
    case atStart => exact ⟨0, rfl, by omega, Keep.refl w, fun j hj => by omega⟩
    case round =>
      obtain ⟨k, rfl, hk, kw, HN⟩ := hrel
      by_cases hlt : k < n
      · have hkl : k < L.length := by rw [hn.out]; exact hlt
        have hltc : decide ((k : Int) < (n : Int)) = true := decide_eq_true (by omega)
        have x0 : (SvL L)[k]? = some (.string ⟨(L.getD k []).toArray⟩) := by simp [SvL, List.getD, hkl]
        obtain ⟨b, o, rfl, c0⟩ := RdG.keep hr.out kw _ _ x0
        have hfl := mem_tl L k hkl
        obtain ⟨f, hf⟩ : ∃ f, L.getD k [] = f := ⟨_, rfl⟩
        rw [hf] at hfl c0
        have hfm : Hid (f ∈ L) := by unfold Hid; rw [← hf]; simp [List.getD, hkl]
        have hfs : f.length ≤ 4294967000 := by have := hL.out; omega
        have hsz := sz_mk f
        replace hf : Hid _ := hf
        replace kw : Hid _ := kw
        have HK : Hid (k < n) := hlt
        clear x0 hfl hkl
        go_wp2_with fail
        go_loopw [8] (fun iv wi => ∃ i : Nat, iv = .int .i64 i ∧ i ≤ f.length ∧ Keep w wi ∧ Hid (NoNL f i)) (fun iv _ => f.length - (intOf iv).toNat)
        case atStart => exact ⟨0, rfl, by omega, kw.out, fun j hj => by omega⟩
        case round =>
          obtain ⟨i, rfl, hi, ki, HNi⟩ := hrel
          replace ki : Hid _ := ki
          by_cases hil : i < f.length
          · have hx := run_ix f i hil
            have hilc : decide ((i : Int) < (f.length : Int)) = true := decide_eq_true (by omega)
            have HI : Hid (i < f.length) := hil
            cases hnc : isNL (f.getD i 0) with
            | false =>
              have HN2 : Hid (NoNL f (i + 1)) := NoNL_step HNi.out hnc
              unfold isNL at hnc
              rw [Bool.or_eq_false_iff, beq_eq_false_iff_ne, beq_eq_false_iff_ne] at hnc
              have n1 := ub_no (f.getD i 0) 10 10 rfl hnc.1
              have n2 := ub_no (f.getD i 0) 13 13 rfl hnc.2
              clear hnc
              generalize (f.getD i 0).toNat = m at *
              go_wp2_with fail
              go_roundw
              case rel => exact ⟨i + 1, by go_num, by have := HI.out; omega, ki.out, HN2⟩
              case measure => have := HI.out; simp [intOf]; omega
            | true =>
              have HX : Hid (([], 30) = R) := by
                unfold Hid
                have := hR.out
                rw [if_neg (fun h => by have := hfm.out; rw [h] at this; simp at this), jr_nl y true L [] ⟨f, hfm.out, has_yes f i hil hnc⟩] at this
                exact this
              have m1 : (((f.getD i 0).toNat : Int) == 10) = decide (f.getD i 0 = 10) := by rw [← ub_eq (f.getD i 0) 10]; rfl
              have m2 : (((f.getD i 0).toNat : Int) == 13) = decide (f.getD i 0 = 13) := by rw [← ub_eq (f.getD i 0) 13]; rfl
              have hor : Hid ((decide (f.getD i 0 = 10) || decide (f.getD i 0 = 13)) = true) := hnc
              clear hnc
              generalize decide (f.getD i 0 = 10) = d1 at *
              generalize decide (f.getD i 0 = 13) = d2 at *
              generalize (f.getD i 0).toNat = m at *
              cases d1 <;> cases d2 <;> first
                | exact absurd hor.out (by decide)
                | (go_wp2_with fail
                   go_ret2
                   exact ⟨by rw [← HX.out]; rfl, ki.out⟩)
          · have hilc : ¬ (i : Int) < (f.length : Int) := by omega
            obtain rfl : i = f.length := by omega
            have HF : Hid (∀ j < k + 1, hasNL (L.getD j []) = false) := by
              intro j hj
              by_cases hjk : j = k
              · rw [hjk, hf.out]; exact has_no f HNi.out
              · exact HN.out j (by omega)
            go_wp2_with fail
            go_roundw
            case rel => exact ⟨k + 1, by go_num, by have := HK.out; omega, ki.out, HF⟩
            case measure => have := HK.out; simp [intOf]; omega
      · have hltc : ¬ (k : Int) < (n : Int) := by omega
        obtain rfl : k = n := by omega
        replace kw : Hid _ := kw
        by_cases h2 : L = []
        · have HX : Hid (([], 3) = R) := by have := hR.out; rw [if_pos h2] at this; exact this
          obtain rfl : k = 0 := by rw [← hn.out, h2]; rfl
          clear h2
          go_wp2_with fail
          go_ret2
          exact ⟨by rw [← HX.out]; rfl, kw.out⟩
        · have hR2 : Hid (jx (jr y (decide (0 = 0)) (L.drop 0) []) = R) := by have := hR.out; rw [if_neg h2] at this; unfold Hid; rw [List.drop_zero]; exact this
          have hn0 : ((k : Int) == 0) = false := by
            have : L.length ≠ 0 := fun h => h2 (List.length_eq_zero_iff.1 h)
            rw [beq_eq_false_iff_ne]; have := hn.out; omega
          clear h2 hR
          go_wp2_with fail
          go_loopw [9, 53] (fun bv iv wr => ∃ (i : Nat) (A : List UInt8), iv = .int .i64 i ∧ i ≤ k ∧ OwnB w.heap.size bv A wr ∧ Keep w wr ∧ Hid (A.length + tl (L.drop i) ≤ tl L) ∧ Hid (jx (jr y (decide (i = 0)) (L.drop i) A) = R)) (fun _ iv _ => k - (intOf iv).toNat)
          case atStart => exact ⟨0, [], rfl, by omega, OwnB.nil _ _, kw.out, by unfold Hid; simp, hR2⟩
          case round =>
            obtain ⟨i, A, rfl, hi, hO, ki, HA, H⟩ := hrel
            clear hR2 kw
            by_cases hil : i < k
            · have hkl : i < L.length := by rw [hn.out]; exact hil
              have hilc : decide ((i : Int) < (k : Int)) = true := decide_eq_true (by omega)
              have hd := dropc L i hkl
              have x0 : (SvL L)[i]? = some (.string ⟨(L.getD i []).toArray⟩) := by simp [SvL, List.getD, hkl]
              obtain ⟨b, o, rfl, c0⟩ := RdG.keep hr.out ki _ _ x0
              have hfl := mem_tl L i hkl
              have H2 := H.out
              have HA2 := HA.out
              rw [hd] at H2 HA2
              rw [tl_cons] at HA2
              unfold jr at H2
              rw [if_neg (by rw [HN.out i hil]; decide)] at H2
              have hLo := hL.out
              obtain ⟨f, hf⟩ : ∃ f, L.getD i [] = f := ⟨_, rfl⟩
              rw [hf] at H2 HA2 hfl c0
              have hfs : f.length ≤ 4294967000 := by omega
              have hsz := sz_mk f
              have hAb : A.length + 2 * f.length + 3 ≤ 4294967000 := by omega
              have HK : Hid (i < k) := hil
              obtain ⟨A1, hA1⟩ : ∃ A1, A ++ (if decide (i = 0) = true then [] else [y]) = A1 := ⟨_, rfl⟩
              rw [hA1] at H2
              have hA1l : A1.length ≤ A.length + 1 := by rw [← hA1, List.length_append]; have : (if decide (i = 0) = true then [] else [y] : List UInt8).length ≤ 1 := by split <;> simp
                                                         omega
              replace H2 : Hid _ := H2
              replace HA2 : Hid _ := HA2
              replace hO : Hid _ := hO
              replace ki : Hid _ := ki
              replace hA1 : Hid _ := hA1
              clear x0 hd H HA hf hkl hfl hLo hil hr hL HN
              go_upto_if 59 with fail
              go_cut [9] from 54 to 116 (fun bv wx => OwnB w.heap.size bv A1 wx ∧ Keep w wx)
              case first =>
                by_cases h0 : i = 0
                · subst h0
                  have hE : A = A1 := by have := hA1.out; simpa using this
                  clear hA1
                  subst hE
                  go_wp2_with fail
                  go_meet
                  case rel => exact ⟨hO.out, ki.out⟩
                · have hk1 : 0 < i := by omega
                  have hkc : decide (0 < i) = true := decide_eq_true hk1
                  have hE : Hid (A ++ [y] = A1) := by unfold Hid; have := hA1.out; simpa [h0] using this
                  clear hA1 h0
                  obtain ⟨w6, hw6, k6, t6, s6⟩ := boxed wr (Lib.byteCells [y]).toArray 5
                  replace hw6 : wr.alloc (Obj.cells #[.int .u8 (y.toNat : Nat)] 5) = w6 := hw6
                  go_wp2_with (first
                    | rw [hw6]
                    | (at_builtin; refine wpList_appB w.heap.size _ rfl _ _ rfl A [y] _ rfl (OwnB.keep hO.out k6) (Keep.trans ki.out k6).le ⟨wr.heap.size, 0, none⟩ 1 rfl (atB t6) (by simp only [List.length_cons, List.length_nil]; omega) ?_; intro v7 w7 hO7 hg7))
                  go_meet
                  case rel => exact ⟨by rw [← hE.out]; exact hO7, own_grownB (Keep.trans ki.out k6) (OwnB.keep hO.out k6) hg7⟩
              case rest =>
                obtain ⟨hO1, k1⟩ := hcut
                clear hO ki hA1 c0
                replace hO1 : Hid _ := hO1
                replace k1 : Hid _ := k1
                go_upto_region 20 with fail
                go_cut [9, 12] from 54 to 116 (fun bv v wx => v = .bool (inF f y 0) ∧ OwnB w.heap.size bv A1 wx ∧ Keep w wx)
                case first =>
                  by_cases h0 : f.length = 0
                  · have hf0 : f = [] := List.length_eq_zero_iff.1 h0
                    subst hf0
                    have hpc : decide ((0 : Int) < ((0 : Nat) : Int)) = false := by decide
                    have hl0 : (([] : List UInt8).length : Int) = 0 := rfl
                    go_wp2_with fail
                    go_meet
                    case rel => exact ⟨rfl, hO1.out, k1.out⟩
                  · have hx : ∀ w, (Instr.index 9 (.string ⟨f.toArray⟩) (.int .i64 0)).run Tryd.prog w = .ok (.int .u8 ((f.getD 0 0).toNat : Nat)) w := fun w => run_ix f 0 (by omega) w
                    have hfp : 0 < f.length := by omega
                    have hpc : decide (0 < f.length) = true := decide_eq_true hfp
                    have e4 : (((f.getD 0 0).toNat : Int) == 34) = inF f y 0 := by
                      unfold inF
                      have : decide (f.getD 0 0 = 34) = (((f.getD 0 0).toNat : Int) == 34) := by rw [← ub_eq (f.getD 0 0) 34]; rfl
                      rw [← this]
                      cases f with
                      | nil => exact absurd rfl h0
                      | cons q f => simp
                    clear h0
                    generalize (f.getD 0 0).toNat = m at *
                    go_wp2_with fail
                    go_meet
                    case rel => exact ⟨rfl, hO1.out, k1.out⟩
                case rest =>
                  obtain ⟨rfl, hO2, k2⟩ := hcut
                  clear hO1 k1
                  replace hO2 : Hid _ := hO2
                  replace k2 : Hid _ := k2
                  go_wp2_with fail
                  go_loopw [12, 13] (fun gv iv wx => ∃ j : Nat, gv = .bool (inF f y j) ∧ iv = .int .i64 j ∧ j ≤ f.length ∧ OwnB w.heap.size u9 A1 wx ∧ Keep w wx) (fun _ iv _ => f.length - (intOf iv).toNat)
                  case atStart => exact ⟨0, rfl, rfl, by omega, hO2.out, k2.out⟩
                  case round =>
                    obtain ⟨j, rfl, rfl, hj, hO3, k3⟩ := hrel
                    clear hO2 k2
                    replace hO3 : Hid _ := hO3
                    replace k3 : Hid _ := k3
                    by_cases hjl : j < f.length
                    · have hx := run_ix f j hjl
                      have hjlc : decide ((j : Int) < (f.length : Int)) = true := decide_eq_true (by omega)
                      have HJ : Hid (j < f.length) := hjl
                      have HI : Hid (inF f y (j + 1) = (inF f y j || (f.getD j 0 == y))) := inF_next f y j hjl
                      have e5 : (((f.getD j 0).toNat : Int) == (y.toNat : Int)) = (f.getD j 0 == y) := by
                        rw [Bool.eq_iff_iff, beq_iff_eq, beq_iff_eq, ← UInt8.toNat_inj]; omega
                      generalize (f.getD j 0 == y) = d5 at *
                      generalize (f.getD j 0).toNat = m at *
                      generalize inF f y j = g5 at *
                      cases g5 <;> cases d5 <;> (
                        go_wp2_with fail
                        go_roundw
                        case rel => exact ⟨j + 1, by rw [HI.out]; rfl, by go_num, by have := HJ.out; omega, hO3.out, k3.out⟩
                        case measure => have := HJ.out; simp [intOf]; omega)
                    · have hjlc : ¬ (j : Int) < (f.length : Int) := by omega
                      obtain rfl : j = f.length := by omega
                      have hft := inF_all f y
                      cases hg : inF f y f.length with
                      | false =>
                        rw [hg] at hft
                        rw [if_neg (by decide)] at hft
                        go_wp2_with (at_builtin; refine wpList_appS w.heap.size _ rfl _ _ rfl A1 f _ rfl hO3.out (Keep.le k3.out) rfl (by omega) ?_; intro v7 w7 hO7 hg7; have k7 : Hid (Keep w w7) := own_grownB k3.out hO3.out hg7; replace hO7 : Hid _ := hO7; clear hg7)
                        go_roundw
                        case rel => exact ⟨i + 1, A1 ++ f, by go_num, by have := HK.out; omega, hO7.out, k7.out, by unfold Hid; have := HA2.out; rw [List.length_append]; omega, by unfold Hid; have := H2.out; rw [hft] at this; simpa using this⟩
                        case measure => have := HK.out; simp [intOf]; omega
                      | true =>
                        rw [hg] at hft
                        rw [if_pos rfl] at hft
                        obtain ⟨w6, hw6, k6, t6, s6⟩ := boxed wr (Lib.byteCells [34]).toArray 5
                        replace hw6 : wr.alloc (Obj.cells #[.int .u8 34] 5) = w6 := hw6
                        go_wp2_with (first
                          | rw [hw6]
                          | (at_builtin; refine wpList_appB w.heap.size _ rfl _ _ rfl A1 [34] _ rfl (OwnB.keep hO3.out k6) (Keep.trans k3.out k6).le ⟨wr.heap.size, 0, none⟩ 1 rfl (atB t6) (by simp only [List.length_cons, List.length_nil]; omega) ?_; intro v7 w7 hO7 hg7; have k7 : Hid (Keep w w7) := own_grownB (Keep.trans k3.out k6) (OwnB.keep hO3.out k6) hg7; replace hO7 : Hid _ := hO7; clear hg7))
                        go_loopw [9, 14] (fun bv iv wx => ∃ j : Nat, iv = .int .i64 j ∧ j ≤ f.length ∧ OwnB w.heap.size bv (A1 ++ [34] ++ dbl (f.take j)) wx ∧ Keep w wx) (fun _ iv _ => f.length - (intOf iv).toNat)
                        case atStart => exact ⟨0, rfl, by omega, by rw [show dbl (f.take 0) = [] from rfl, List.append_nil]; exact hO7.out, k7.out⟩
                        case round =>
                          obtain ⟨j, rfl, hj, hO8, k8⟩ := hrel
                          clear hO7 k7 hw6 k6 t6 s6 hO3 k3
                          replace hO8 : Hid _ := hO8
                          replace k8 : Hid _ := k8
                          have hdl : (A1 ++ [34] ++ dbl (f.take j)).length ≤ 4294967000 := by
                            have h1 := dbl_len (f.take j)
                            have h2 := List.length_take_le j f
                            rw [List.length_append, List.length_append, List.length_singleton]; omega
                          by_cases hjl : j < f.length
                          · have hx := run_ix f j hjl
                            have hjlc : decide ((j : Int) < (f.length : Int)) = true := decide_eq_true (by omega)
                            have HJ : Hid (j < f.length) := hjl
                            have HD := dbl_next f j hjl
                            obtain ⟨D, hD⟩ : ∃ D, A1 ++ [34] ++ dbl (f.take j) = D := ⟨_, rfl⟩
                            have HD2 : Hid (A1 ++ [34] ++ dbl (f.take (j + 1)) = D ++ (if f.getD j 0 = 34 then [34, 34] else [f.getD j 0])) := by unfold Hid; rw [HD, ← hD]; simp
                            rw [hD] at hO8 hdl
                            clear HD hD
                            obtain ⟨q, hq⟩ : ∃ q, f.getD j 0 = q := ⟨_, rfl⟩
                            rw [hq] at hx HD2
                            clear hq
                            by_cases hq34 : q = 34
                            · have e6 := ub_is q 34 34 rfl hq34
                              rw [if_pos hq34] at HD2
                              have HD3 : Hid (A1 ++ [34] ++ dbl (f.take (j + 1)) = D ++ [34] ++ [q]) := by unfold Hid; rw [HD2.out, hq34]; simp
                              clear HD2 hq34
                              obtain ⟨w6, hw6, k6, t6, s6⟩ := boxed wr (Lib.byteCells [34]).toArray 5
                              replace hw6 : wr.alloc (Obj.cells #[.int .u8 34] 5) = w6 := hw6
                              go_wp2_with (first
                                | rw [hw6]
                                | rw [hw9]
                                | (at_builtin; refine wpList_appB w.heap.size _ rfl _ _ rfl (D ++ [34]) [q] _ rfl (OwnB.keep hO7.out k9) (Keep.trans k7.out k9).le ⟨w7.heap.size, 0, none⟩ 1 rfl (atB t9) (by rw [List.length_append]; simp only [List.length_cons, List.length_nil]; omega) ?_; intro v10 w10 hO10 hg10; have k10 : Hid (Keep w w10) := own_grownB (Keep.trans k7.out k9) (OwnB.keep hO7.out k9) hg10; replace hO10 : Hid _ := hO10; clear hg10)
                                | (at_builtin; refine wpList_appB w.heap.size _ rfl _ _ rfl D [34] _ rfl (OwnB.keep hO8.out k6) (Keep.trans k8.out k6).le ⟨wr.heap.size, 0, none⟩ 1 rfl (atB t6) (by simp only [List.length_cons, List.length_nil]; omega) ?_; intro v7 w7 hO7 hg7; have k7 : Hid (Keep w w7) := own_grownB (Keep.trans k8.out k6) (OwnB.keep hO8.out k6) hg7; replace hO7 : Hid _ := hO7; clear hg7
                                   obtain ⟨w9, hw9, k9, t9, s9⟩ := boxed w7 (Lib.byteCells [q]).toArray 5
                                   replace hw9 : w7.alloc (Obj.cells #[.int .u8 (q.toNat : Nat)] 5) = w9 := hw9))
                              go_roundw
                              case rel => exact ⟨j + 1, by go_num, by have := HJ.out; omega, by rw [HD3.out]; exact hO10.out, k10.out⟩
                              case measure => have := HJ.out; simp [intOf]; omega
                            · have e6 := ub_no q 34 34 rfl hq34
                              rw [if_neg hq34] at HD2
                              clear hq34
                              obtain ⟨w6, hw6, k6, t6, s6⟩ := boxed wr (Lib.byteCells [q]).toArray 5
                              replace hw6 : wr.alloc (Obj.cells #[.int .u8 (q.toNat : Nat)] 5) = w6 := hw6
                              go_wp2_with (first
                                | rw [hw6]
                                | (at_builtin; refine wpList_appB w.heap.size _ rfl _ _ rfl D [q] _ rfl (OwnB.keep hO8.out k6) (Keep.trans k8.out k6).le ⟨wr.heap.size, 0, none⟩ 1 rfl (atB t6) (by simp only [List.length_cons, List.length_nil]; omega) ?_; intro v7 w7 hO7 hg7; have k7 : Hid (Keep w w7) := own_grownB (Keep.trans k8.out k6) (OwnB.keep hO8.out k6) hg7; replace hO7 : Hid _ := hO7; clear hg7))
                              go_roundw
                              case rel => exact ⟨j + 1, by go_num, by have := HJ.out; omega, by rw [HD2.out]; exact hO7.out, k7.out⟩
                              case measure => have := HJ.out; simp [intOf]; omega
                          · have hjlc : ¬ (j : Int) < (f.length : Int) := by omega
                            obtain rfl : j = f.length := by omega
                            rw [List.take_length] at hO8 hdl
                            obtain ⟨D, hD⟩ : ∃ D, A1 ++ [34] ++ dbl f = D := ⟨_, rfl⟩
                            rw [hD] at hO8 hdl
                            have HD : Hid (D ++ [34] = A1 ++ ft f y) := by unfold Hid; rw [← hD, hft]; simp
                            clear hD
                            obtain ⟨w6, hw6, k6, t6, s6⟩ := boxed wr (Lib.byteCells [34]).toArray 5
                            replace hw6 : wr.alloc (Obj.cells #[.int .u8 34] 5) = w6 := hw6
                            have hftl := ft_len f y
                            have HL : Hid ((A1 ++ ft f y).length + tl (L.drop (i + 1)) ≤ tl L) := by unfold Hid; have := HA2.out; rw [List.length_append]; omega
                            clear hftl
                            go_wp2_with (first
                              | rw [hw6]
                              | (at_builtin; refine wpList_appB w.heap.size _ rfl _ _ rfl D [34] _ rfl (OwnB.keep hO8.out k6) (Keep.trans k8.out k6).le ⟨wr.heap.size, 0, none⟩ 1 rfl (atB t6) (by simp only [List.length_cons, List.length_nil]; omega) ?_; intro v9 w9 hO9 hg9; have k9 : Hid (Keep w w9) := own_grownB (Keep.trans k8.out k6) (OwnB.keep hO8.out k6) hg9; replace hO9 : Hid _ := hO9; clear hg9))
                            go_roundw
                            case rel => exact ⟨i + 1, A1 ++ ft f y, by go_num, by have := HK.out; omega, by rw [← HD.out]; exact hO9.out, k9.out, HL, by unfold Hid; have := H2.out; simpa using this⟩
                            case measure => have := HK.out; simp [intOf]; omega
            · have hilc : ¬ (i : Int) < (k : Int) := by omega
              obtain rfl : i = k := by omega
              have H2 := H.out
              rw [List.drop_eq_nil_of_le (by rw [hn.out]; omega)] at H2
              have H2 : Hid ((A, 0) = R) := H2
              have hcv := hO.conv
              replace ki : Hid _ := ki
              replace hO : Hid _ := hO
              clear H HA
              go_wp2_with (rw [hcv])
              go_ret2
              exact ⟨by rw [← H2.out]; rfl, ki.out⟩
end Go.Proofs.YtonfjmibnnioiaaDoor
