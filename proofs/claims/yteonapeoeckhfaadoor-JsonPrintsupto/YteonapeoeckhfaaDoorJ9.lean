import Derived.Test.YteonapeoeckhfaaDoorJC
import Derived.Test.YteonapeoeckhfaaDoorShelfV
import Derived.Test.YteonapeoeckhfaaDoorG2
import Derived.Maps.OwnSet
import Derived.StringKeys
set_option linter.unusedVariables false
set_option linter.unusedSimpArgs false
namespace Go.Proofs.YteonapeoeckhfaaDoor
open Go.RowKit Go.Shelf
/-- The tables of the library's UTF-8 stand. -/
def UT (w : World) : Prop := Lib.Utf8Tabs 0 1 w
theorem UT.keep {w w' : World} (h : UT w) (k : Keep w w') : UT w' := Utf8Tabs_below h k
set_option maxRecDepth 100000 in
set_option maxHeartbeats 1000000 in
theorem isSingle_any (k : Nat) (t : ByteArray) (ns : List ByteArray) (is : List J) (an : Option Addr) (cn : Nat) (ai : Option Addr) (ci : Nat) (w : World) :
    Calls Tryd.prog 68 #[.agg #[.int .u8 (k : Nat), .string t, .slice an ns.length cn, .slice ai is.length ci]] w fun e w' => e = .returned (.bool (sgl (.mk k t ns is))) ∧ Keep w w' := by
  obtain ⟨ANS, hA⟩ : ∃ ANS, sgl (.mk k t ns is) = ANS := ⟨_, rfl⟩
  rw [hA]
  unfold sgl at hA
  simp only [J.ns, J.is] at hA
  generalize ns.length = n at *
  generalize is.length = m at *
  by_cases hn : n = 0
  · subst hn
    have hA2 : ((m : Int) == 0) = ANS := by
      rw [← hA]
      have := beqNat m 0
      simpa using this
    clear hA
    go_enter Tryd.func68, Tryd.ntmps68
    go_wp2
    go_ret
    exact ⟨rfl, (Keep.refl w).alloc _⟩
  · have hb : ((n : Int) == 0) = false := by
      have := beqNat n 0
      simp [hn] at this ⊢
    have hA2 : ANS = false := by rw [← hA]; simp [hn]
    subst hA2
    clear hA
    go_enter Tryd.func68, Tryd.ntmps68
    go_wp2
    go_ret
    exact ⟨rfl, (Keep.refl w).alloc _⟩
set_option maxRecDepth 100000 in
set_option maxHeartbeats 1000000 in
theorem areTexts_any (ns : List ByteArray) (an : Option Addr) (cn : Nat) (w : World) (hT : UT w) (h : RdS w an ns) (hl : ns.length ≤ 140737488355328) (hz : ∀ t ∈ ns, t.size ≤ 9223372036854775807) :
    Calls Tryd.prog 71 #[.slice an ns.length cn] w fun e w' => e = .returned (.bool (ns.all vT)) ∧ Keep w w' := by
  obtain ⟨n, hn⟩ : ∃ n, ns.length = n := ⟨_, rfl⟩
  rw [hn] at hl ⊢
  have HN : Hid (ns.length = n) := hn
  clear hn
  go_enter Tryd.func71, Tryd.ntmps71
  go_wp2_with fail
  go_loopg [7] n (fun gg s7 wx => ∃ i : Nat, i ≤ n ∧ gg = n - i ∧ s7 = .int .i64 i ∧ Hid (∀ p, p < i → vT (ns.getD p ByteArray.empty) = true) ∧ Keep w wx)
  case atStart => exact ⟨0, by omega, by omega, rfl, fun p hp => by omega, Keep.refl _⟩
  case round =>
    obtain ⟨i, hi, rfl, rfl, hq, kq⟩ := hrel
    by_cases hil : i < n
    · obtain ⟨b, o, rfl, hc⟩ := h i (by rw [HN.out]; exact hil)
      have hc2 := kq.cell hc
      obtain ⟨t, ht⟩ : ∃ t, ns.getD i ByteArray.empty = t := ⟨_, rfl⟩
      have htm : t ∈ ns := by
        have : i < ns.length := by rw [HN.out]; exact hil
        rw [← ht]; simp [List.getD, this]
      rw [ht] at hc2
      have hV := fun wx (kx : Keep w wx) => Tryd.utf8_ValidString t wx (hz t htm) (hT.keep kx)
      have HT : Hid (ns.getD i ByteArray.empty = t) := ht
      clear hc ht
      cases hv : Lib.validD t.data.toList with
      | true =>
        rw [hv] at hV
        replace hv : Hid _ := hv
        go_wp2_with (go_at_call 70; refine (hV _ kq).mono ?_; clear hV; rintro e w2 ⟨rfl, k2⟩)
        go_roundg (n - (i + 1))
        case measure => omega
        case rel =>
          refine ⟨i + 1, by omega, rfl, by go_num, ?_, kq.trans k2⟩
          intro p hp
          by_cases hpj : p = i
          · subst hpj; rw [HT.out]; exact hv.out
          · exact hq.out p (by omega)
      | false =>
        rw [hv] at hV
        have hA : Hid (ns.all vT = false) := by
          cases q : ns.all vT with
          | false => rfl
          | true =>
            rw [List.all_eq_true] at q
            have := q t htm
            unfold vT at this
            rw [hv] at this; cases this
        clear hv
        go_wp2_with (go_at_call 70; refine (hV _ kq).mono ?_; clear hV; rintro e w2 ⟨rfl, k2⟩)
        go_ret
        exact ⟨ret_bool hA.out.symm, kq.trans k2⟩
    · have hA : Hid (ns.all vT = true) := by
        show ns.all vT = true
        rw [List.all_eq_true]
        intro x hx
        obtain ⟨p, hp, rfl⟩ := List.getElem_of_mem hx
        have := hq.out p (by rw [HN.out] at hp; omega)
        simpa [List.getD, hp] using this
      go_wp2_with fail
      go_ret
      exact ⟨ret_bool hA.out.symm, kq⟩
end Go.Proofs.YteonapeoeckhfaaDoor
set_option linter.unusedVariables false
set_option linter.unusedSimpArgs false
namespace Go.Proofs.YteonapeoeckhfaaDoor
open Go.RowKit Go.Shelf
/-- The texts of a value are texts that an int can measure. -/
def FitT (j : J) : Prop := j.t.size ≤ 140737488355328 ∧ ∀ t ∈ j.ns, t.size ≤ 140737488355328
theorem plain_of {j : J} {k : Nat} (h : j.k = k) : plain j =
  if k = 1 ∨ k = 2 ∨ k = 3 then eT j.t && sgl j
  else if k = 4 then isNm j.t.data.toList && sgl j
  else if k = 5 then vT j.t && sgl j
  else if k = 6 then eT j.t && j.ns.length == 0
  else if k = 7 then eT j.t && j.ns.length == j.is.length && j.ns.all vT
  else false := by subst h; rfl
set_option maxRecDepth 100000 in
set_option maxHeartbeats 4000000 in
theorem isPlain_any (hI : IxC) (k : Nat) (t : ByteArray) (ns : List ByteArray) (is : List J) (an : Option Addr) (cn : Nat) (ai : Option Addr) (ci : Nat) (w : World) (hT : UT w) (h : RdS w an ns) (hl : ns.length ≤ 140737488355328) (hk : k < 256) (hf : FitT (.mk k t ns is)) :
    Calls Tryd.prog 57 #[.agg #[.int .u8 (k : Nat), .string t, .slice an ns.length cn, .slice ai is.length ci]] w fun e w' => e = .returned (.bool (plain (.mk k t ns is))) ∧ Keep w w' := by
  have hS := fun wx => isSingle_any k t ns is an cn ai ci wx
  have hN := fun wx => isNumber_any hI t.data.toList wx (by rw [Array.length_toList]; exact hf.1)
  rw [mk_dt] at hN
  have hV := fun wx (kx : Keep w wx) => Tryd.utf8_ValidString t wx (by have := hf.1; simp only [J.t] at this; omega) (hT.keep kx)
  have hA := fun wx (kx : Keep w wx) => areTexts_any ns an cn wx (hT.keep kx) (h.keep kx) hl (fun u hu => by have := hf.2 u hu; omega)
  have hP : plain (.mk k t ns is) = _ := plain_of (j := .mk k t ns is) rfl
  simp only [J.t, J.ns, J.is] at hP
  obtain ⟨ANS, hANS⟩ : ∃ ANS, plain (.mk k t ns is) = ANS := ⟨_, rfl⟩
  rw [hANS] at hP ⊢
  clear hANS hf h hT hI
  generalize sgl (.mk k t ns is) = SG at hS hP
  generalize ns.all vT = AV at hA hP
  generalize isNm t.data.toList = NM at hN hP
  change ANS = if k = 1 ∨ k = 2 ∨ k = 3 then eT t && SG else if k = 4 then NM && SG else if k = 5 then Lib.validD t.data.toList && SG else if k = 6 then eT t && ns.length == 0 else if k = 7 then eT t && ns.length == is.length && AV else false at hP
  generalize Lib.validD t.data.toList = VT at hV hP
  have ka := (Keep.refl w).alloc (Obj.cells #[.int .u8 (k : Nat), .string t, .slice an ns.length cn, .slice ai is.length ci] 27)
  obtain ⟨E, hE⟩ : ∃ E, eT t = E := ⟨_, rfl⟩
  rw [hE] at hP
  have hE2 : (t.toList == ByteArray.toList { data := #[] }) = E := hE
  have hE4 : ByteArray.toList { data := #[] } = [] := by rw [ByteArray.toList_eq]
  have hE3 : t.toList.isEmpty = E := by
    rw [← hE2, hE4]
    cases t.toList <;> rfl
  clear hE2 hE4
  clear hE
  generalize ns.length = n at *
  generalize is.length = m at *
  by_cases h1 : k = 1
  · subst h1
    simp at hP
    cases E with
    | true =>
        simp at hP
        subst hP
        go_enter Tryd.func57, Tryd.ntmps57
        go_wp2_with (go_at_call 68; refine (hS _).mono ?_; rintro e w2 ⟨rfl, k2⟩)
        go_ret
        exact ⟨rfl, ka.trans k2⟩
    | false =>
        simp at hP
        subst hP
        go_enter Tryd.func57, Tryd.ntmps57
        go_wp2_with fail
        go_ret
        exact ⟨rfl, ka⟩
  by_cases h2 : k = 2
  · subst h2
    simp at hP
    cases E with
    | true =>
        simp at hP
        subst hP
        go_enter Tryd.func57, Tryd.ntmps57
        go_wp2_with (go_at_call 68; refine (hS _).mono ?_; rintro e w2 ⟨rfl, k2⟩)
        go_ret
        exact ⟨rfl, ka.trans k2⟩
    | false =>
        simp at hP
        subst hP
        go_enter Tryd.func57, Tryd.ntmps57
        go_wp2_with fail
        go_ret
        exact ⟨rfl, ka⟩
  by_cases h3 : k = 3
  · subst h3
    simp at hP
    cases E with
    | true =>
        simp at hP
        subst hP
        go_enter Tryd.func57, Tryd.ntmps57
        go_wp2_with (go_at_call 68; refine (hS _).mono ?_; rintro e w2 ⟨rfl, k2⟩)
        go_ret
        exact ⟨rfl, ka.trans k2⟩
    | false =>
        simp at hP
        subst hP
        go_enter Tryd.func57, Tryd.ntmps57
        go_wp2_with fail
        go_ret
        exact ⟨rfl, ka⟩
  by_cases h4 : k = 4
  · subst h4
    simp at hP
    have hb := heap_alloc_new w (Obj.cells #[.int .u8 ((4 : Nat) : Int), .string t, .slice an n cn, .slice ai m ci] 27)
    cases NM with
    | true =>
        simp at hP
        subst hP
        go_enter Tryd.func57, Tryd.ntmps57
        go_wp2_with (first | (go_at_call 69; refine (hN _).mono ?_; rintro e w2 ⟨rfl, k2⟩; have hb2 := Keep.at k2 hb; have q0 := cell_of_row _ _ 0 _ 27 (0, 0) hb2; have q1 := cell_of_row _ _ 1 _ 27 (0, 0) hb2; have q2 := cell_of_row _ _ 2 _ 27 (0, 0) hb2; have q3 := cell_of_row _ _ 3 _ 27 (0, 0) hb2; simp only [List.getElem?_toArray, List.getElem?_cons_zero, List.getElem?_cons_succ] at q0 q1 q2 q3; clear hb2) | (go_at_call 68; refine (hS _).mono ?_; rintro e w3 ⟨rfl, k3⟩))
        go_ret
        exact ⟨rfl, (ka.trans k2).trans k3⟩
    | false =>
        simp at hP
        subst hP
        go_enter Tryd.func57, Tryd.ntmps57
        go_wp2_with (go_at_call 69; refine (hN _).mono ?_; rintro e w2 ⟨rfl, k2⟩)
        go_ret
        exact ⟨rfl, ka.trans k2⟩
  by_cases h5 : k = 5
  · subst h5
    simp at hP
    have hb := heap_alloc_new w (Obj.cells #[.int .u8 ((5 : Nat) : Int), .string t, .slice an n cn, .slice ai m ci] 27)
    cases VT with
    | true =>
        simp at hP
        subst hP
        go_enter Tryd.func57, Tryd.ntmps57
        go_wp2_with (first | (go_at_call 70; refine (hV _ ka).mono ?_; rintro e w2 ⟨rfl, k2⟩; have hb2 := Keep.at k2 hb; have q0 := cell_of_row _ _ 0 _ 27 (0, 0) hb2; have q1 := cell_of_row _ _ 1 _ 27 (0, 0) hb2; have q2 := cell_of_row _ _ 2 _ 27 (0, 0) hb2; have q3 := cell_of_row _ _ 3 _ 27 (0, 0) hb2; simp only [List.getElem?_toArray, List.getElem?_cons_zero, List.getElem?_cons_succ] at q0 q1 q2 q3; clear hb2) | (go_at_call 68; refine (hS _).mono ?_; rintro e w3 ⟨rfl, k3⟩))
        go_ret
        exact ⟨rfl, (ka.trans k2).trans k3⟩
    | false =>
        simp at hP
        subst hP
        go_enter Tryd.func57, Tryd.ntmps57
        go_wp2_with (go_at_call 70; refine (hV _ ka).mono ?_; rintro e w2 ⟨rfl, k2⟩)
        go_ret
        exact ⟨rfl, ka.trans k2⟩
  by_cases h6 : k = 6
  · subst h6
    simp at hP
    cases E with
    | true =>
        simp at hP
        have hz : ((n : Int) == 0) = ANS := by rw [hP]; exact beqNat n 0
        clear hP
        go_enter Tryd.func57, Tryd.ntmps57
        go_wp2_with fail
        go_ret
        exact ⟨rfl, ka⟩
    | false =>
        simp at hP
        subst hP
        go_enter Tryd.func57, Tryd.ntmps57
        go_wp2_with fail
        go_ret
        exact ⟨rfl, ka⟩
  by_cases h7 : k = 7
  · subst h7
    simp at hP
    cases E with
    | true =>
        simp at hP
        cases hz : ((n : Int) == (m : Int)) with
        | true =>
          have hz2 : (n == m) = true := (beqNat n m).symm.trans hz
          simp only [beq_iff_eq] at hz2
          have hz3 : decide (n = m) = true := decide_eq_true hz2
          have hP2 : ANS = AV := by rw [hP]; simp [hz2]
          subst hP2
          clear hP hz2 hz3
          go_enter Tryd.func57, Tryd.ntmps57
          go_wp2_with (go_at_call 71; refine (hA _ ka).mono ?_; rintro e w2 ⟨rfl, k2⟩)
          go_ret
          exact ⟨rfl, ka.trans k2⟩
        | false =>
          have hz2 : (n == m) = false := (beqNat n m).symm.trans hz
          have hz3 : ¬ n = m := by simpa using hz2
          have hP2 : ANS = false := by rw [hP]; simp [hz3]
          subst hP2
          clear hP hz2 hz3
          go_enter Tryd.func57, Tryd.ntmps57
          go_wp2_with fail
          go_ret
          exact ⟨rfl, ka⟩
    | false =>
        simp at hP
        subst hP
        go_enter Tryd.func57, Tryd.ntmps57
        go_wp2_with fail
        go_ret
        exact ⟨rfl, ka⟩
  have hP2 : ANS = false := by rw [hP]; simp [h1, h2, h3, h4, h5, h6, h7]
  subst hP2
  have b1 : ((k : Int) == 1) = false := by rw [beq_eq_false_iff_ne]; omega
  have b2 : ((k : Int) == 2) = false := by rw [beq_eq_false_iff_ne]; omega
  have b3 : ((k : Int) == 3) = false := by rw [beq_eq_false_iff_ne]; omega
  have b4 : ((k : Int) == 4) = false := by rw [beq_eq_false_iff_ne]; omega
  have b5 : ((k : Int) == 5) = false := by rw [beq_eq_false_iff_ne]; omega
  have b6 : ((k : Int) == 6) = false := by rw [beq_eq_false_iff_ne]; omega
  have b7 : ((k : Int) == 7) = false := by rw [beq_eq_false_iff_ne]; omega
  clear hP h1 h2 h3 h4 h5 h6 h7
  go_enter Tryd.func57, Tryd.ntmps57
  go_wp2_with fail
  go_ret
  exact ⟨rfl, ka⟩
end Go.Proofs.YteonapeoeckhfaaDoor
set_option linter.unusedVariables false
set_option linter.unusedSimpArgs false
namespace Go.Proofs.YteonapeoeckhfaaDoor
open Go.RowKit Go.Shelf Go.Maps
theorem run_makeMap82 (n : Int) (w : World) : (Instr.makeMap 82 (some (.int .i64 n))).run Tryd.prog w = .ok (.map (some w.heap.size)) (w.alloc (.map #[] 0)) := by
  simp [Instr.makeMap, asInt, run_underlying Tryd.underlying82]
  rfl
theorem K9 : Keyed Tryd.prog 9 := string_keyed Tryd.underlying9
theorem key9 {s : ByteArray} (hs : s.size ≤ 281474976710656) : keyOf Tryd.prog 9 (.string s) = some (.string s.data.toList) := WideMaps.keyOf_string_mk Tryd.underlying9 (by simp only [maxLen]; omega)
theorem lit_ne {s s' : ByteArray} (h : s ≠ s') : Lit.string s.data.toList ≠ Lit.string s'.data.toList := by
  intro e
  simp only [Lit.string.injEq] at e
  exact h (ByteArray.ext (Array.toList_inj.mp e))
theorem zero83 (w : World) : (zeroValue 83).run Tryd.prog w = .ok (.agg #[]) w := by kernel_rfl
theorem zero3 (w : World) : (zeroValue 3).run Tryd.prog w = .ok (.int .i64 0) w := by kernel_rfl
/-- A set of texts, and how many there are in it. -/
def SetM (w : World) (b n : Nat) (l : List ByteArray) : Prop := ∃ D : DataW Unit, w.ownsMap Tryd.prog 9 unitElem b n D ∧ Maps.size D = ds l ∧ ∀ s : ByteArray, Maps.has D (.string s.data.toList) = inSet s l
theorem SetM.made (w : World) : SetM (w.alloc (.map #[] 0)) w.heap.size 0 [] := ⟨.map [], World.ownsMap_made _ _ _ _, rfl, fun s => rfl⟩
theorem SetM.same {w w' : World} {b n : Nat} {l : List ByteArray} (h : SetM w b n l) (e : w'.heap[b]? = w.heap[b]?) : SetM w' b n l := by
  obtain ⟨D, ⟨es, clock, hb, r⟩, hh⟩ := h
  exact ⟨D, ⟨es, clock, e.trans hb, r⟩, hh⟩
theorem SetM.lt {w : World} {b n : Nat} {l : List ByteArray} (h : SetM w b n l) : b < w.heap.size := by
  obtain ⟨D, h1, -⟩ := h
  exact h1.lt
theorem SetM.keep {w w' : World} {b n : Nat} {l : List ByteArray} (h : SetM w b n l) (k : Keep w w') : SetM w' b n l := h.same (k.block b h.lt)
theorem SetM.look {w : World} {b n : Nat} {l : List ByteArray} (h : SetM w b n l) {s : ByteArray} (hs : s.size ≤ 281474976710656) : (Instr.lookup 82 (.map (some b)) (.string s) true).run Tryd.prog w = .ok (.tuple #[.agg #[], .bool (inSet s l)]) w := by
  obtain ⟨D, h1, -, hh⟩ := h
  obtain ⟨v, ps, hrun, hv⟩ := h1.look_ok K9 Tryd.underlying82 (zero83 w) unitElem_mk (key9 hs)
  obtain ⟨rfl, -⟩ := unitElem_inv hv
  rw [hrun, hh s]
theorem SetM.len {w : World} {b n : Nat} {l : List ByteArray} (h : SetM w b n l) (ty : TypeId) : (Builtin.len_ #[82] ty #[.map (some b)]).run Tryd.prog w = .ok (.int .i64 (ds l : Nat)) w := by
  obtain ⟨D, h1, hz, -⟩ := h
  rw [h1.len Tryd.underlying82 ty, hz]
theorem SetM.put {w : World} {b n : Nat} {l : List ByteArray} (h : SetM w b n l) (hn : n ≤ 281474976710656) {s : ByteArray} (hs : s.size ≤ 281474976710656) : ∃ w', (Instr.mapUpdate 82 (.map (some b)) (.string s) (.agg #[])).run Tryd.prog w = .ok () w' ∧ SetM w' b (n + 1) (s :: l) ∧ w.grownBy w' (some b) := by
  obtain ⟨D, h1, hz, hh⟩ := h
  have hm := h1.isMap
  have ht := h1.tidy K9
  obtain ⟨w', hrun, h2, h3⟩ := h1.update K9 Tryd.underlying82 (by simp only [maxLen]; omega) (key9 hs) unitElem_mk
  refine ⟨w', hrun, ⟨_, h2, ?_, fun s' => ?_⟩, h3⟩
  · rw [size_put ht, hh s, hz]
    show _ = ds l + _
    split <;> rfl
  · by_cases e : s = s'
    · subst e
      rw [has_put_same hm (k := .string s.data.toList) (show WideAt.IsKeyLit (.string s.data.toList) from trivial)]
      simp [inSet]
    · rw [has_put_other (lit_ne (Ne.symm e)), hh s']
      have e' : inSet s' (s :: l) = inSet s' l := by unfold inSet; rw [List.any_cons, decide_eq_false e, Bool.false_or]
      rw [e']
theorem Kb.of_grown {w w' : World} {b : Nat} (g : w.grownBy w' (some b)) : Kb b w w' :=
  ⟨g.os, g.tape, g.output, g.size, fun k hk hne => g.block k hk (fun e => hne (by cases e; rfl))⟩
set_option maxRecDepth 100000 in
set_option maxHeartbeats 2000000 in
theorem hasTwins_any (ns : List ByteArray) (an : Option Addr) (cn : Nat) (w : World) (h : RdS w an ns) (hl : ns.length ≤ 140737488355328) (hz : ∀ t ∈ ns, t.size ≤ 140737488355328) :
    Calls Tryd.prog 58 #[.slice an ns.length cn] w fun e w' => e = .returned (.bool (twn ns)) ∧ Keep w w' := by
  obtain ⟨n, hn⟩ : ∃ n, ns.length = n := ⟨_, rfl⟩
  have hlen : n ≤ 140737488355328 := by omega
  by_cases h2 : n < 2
  · have hA : twn ns = false := by
      unfold twn
      match ns, hn with
      | [], _ => rfl
      | [x], _ => rfl
      | x :: y :: l, hn => simp at hn; omega
    rw [hA, hn]
    clear hA
    go_enter Tryd.func58, Tryd.ntmps58
    go_wp2_with fail
    go_ret
    exact ⟨rfl, Keep.refl _⟩
  · have hmk := run_makeMap82 (n : Int)
    rw [hn]
    have HN : Hid (ns.length = n) := hn
    have hS : SetM (w.alloc (.map #[] 0)) w.heap.size 0 (sn ns 0) := SetM.made w
    have ka := (Keep.refl w).alloc (.map #[] 0)
    clear hn
    go_enter Tryd.func58, Tryd.ntmps58
    go_wp2_with fail
    go_loopg [14] n (fun gg s14 wx => ∃ i : Nat, i ≤ n ∧ gg = n - i ∧ s14 = .int .i64 i ∧ Hid (SetM wx w.heap.size i (sn ns i)) ∧ Keep w wx)
    case atStart => exact ⟨0, by omega, by omega, rfl, hS, ka⟩
    case round =>
      obtain ⟨i, hi, rfl, rfl, hM, kq⟩ := hrel
      by_cases hil : i < n
      · obtain ⟨b, o, rfl, hc⟩ := h i (by rw [HN.out]; exact hil)
        have hc2 := kq.cell hc
        obtain ⟨t, ht⟩ : ∃ t, ns.getD i ByteArray.empty = t := ⟨_, rfl⟩
        have htm : t ∈ ns := by
          have : i < ns.length := by rw [HN.out]; exact hil
          rw [← ht]; simp [List.getD, this]
        rw [ht] at hc2
        obtain ⟨w7, hput, hM7, g7⟩ := hM.out.put (by omega) (s := t) (by have := hz t htm; omega)
        have hs7 : sn ns (i + 1) = t :: sn ns i := by rw [sn_succ (by rw [HN.out]; exact hil), ht]
        rw [← hs7] at hM7
        have k7 : Keep w w7 := Kb.keep kq (Kb.of_grown g7) (Nat.le_refl _)
        replace hM7 : Hid _ := hM7
        clear hc ht hs7 g7 hM htm
        go_wp2_with fail
        go_roundg (n - (i + 1))
        case measure => omega
        case rel => exact ⟨i + 1, by omega, rfl, by go_num, hM7, k7⟩
      · obtain rfl : i = n := by omega
        have hlen2 := hM.out.len
        have hA : decide (ds (sn ns i) < i) = twn ns := by
          have e : sn ns i = ns.reverse := by rw [← HN.out]; exact sn_all ns
          have := ds_lt ns.reverse
          rw [List.length_reverse, HN.out] at this
          rw [e, this]; rfl
        generalize ds (sn ns i) = d at hlen2 hA
        have hA2 : decide ((d : Int) < (i : Int)) = twn ns := by
          rw [← hA]
          congr 1
          exact propext ⟨fun h => by omega, fun h => by omega⟩
        clear hS hM
        go_wp2_with fail
        go_ret
        exact ⟨rfl, kq⟩
end Go.Proofs.YteonapeoeckhfaaDoor
