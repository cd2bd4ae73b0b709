import Derived.Test.YteonapeoeckhfaaDoorP5
set_option linter.unusedVariables false
set_option linter.unusedSimpArgs false
namespace Go.Proofs.YteonapeoeckhfaaDoor
open Go.RowKit Go.Shelf
theorem Pp.start (W : World) : Pp W (W.alloc (.cells #[.slice none 0 0] 59)) W.heap.size [] :=
  ⟨(Keep.refl W).alloc _, Nat.le_refl _, _, heap_alloc_new W _, by simp [Lib.byteCells], .inl ⟨rfl, rfl⟩⟩
/-- What Print says: its error; its text. -/
def pe (j : J) : Nat := if chk j = 0 then (if (pr j).length ≤ 16777216 then 0 else 4) else chk j
def pt (j : J) : List UInt8 := if pe j = 0 then pr j else []
def RP (W : World) (g : Nat) (T : List UInt8) (wx w' : World) : Prop := Pp W w' g T ∧ Kw W.heap.size g wx w'
theorem chk_zero {j : J} (h : chk j = 0) : dp j ≤ 256 ∧ allJ plain j = true ∧ allJ noTw j = true := by
  unfold chk at h
  by_cases h1 : dp j ≤ 256
  · rw [if_pos h1] at h
    by_cases h2 : allJ plain j = true
    · rw [if_pos h2] at h
      by_cases h3 : allJ noTw j = true
      · exact ⟨h1, h2, h3⟩
      · rw [if_neg h3] at h; cases h
    · rw [if_neg h2] at h; cases h
  · rw [if_neg h1] at h; cases h
set_option maxRecDepth 100000 in
set_option maxHeartbeats 4000000 in
theorem do29_ok (hI : IxC) (W : World) (b : Nat) (j : J) (v : Value) (hb : Bv W b v) (hv : RdV W v j) (hpl : allJ plain j = true) (hft : FT j) (hz :  (pr j).length ≤ 16777216) :
    DoOk 29 #[.pointer (some ⟨W.heap.size, 0, none⟩), .pointer (some ⟨b, 0, none⟩)] (W.alloc (.cells #[.slice none 0 0] 59)) (RP W W.heap.size (pr j)) := by
  intro wx kx
  have hp0 : Pp W wx W.heap.size [] := (Pp.start W).keep kx
  obtain ⟨k, t, an, n, cn, ai, m, ci, rfl⟩ := hv.agg
  have hC := value_in hI W W.heap.size _ j _ [] wx (Nat.le_refl _) hv hp0 (by simp) hpl hft
  have hz2 :  ([] : List UInt8).length + (pr j).length ≤ 16777216 := by rw [List.length_nil, Nat.zero_add]; exact hz
  obtain ⟨c0, c1, c2, c3⟩ := (hb.keep (((Keep.refl W).alloc _).trans kx)).cells
  clear hb hv hI hft hpl hp0 hz
  go_enter Tryd.func29, Tryd.ntmps29
  go_wp2_with (go_at_call 30; refine hC.mono ?_; clear hC; rintro e w1 hp; obtain ⟨rfl, p1, k1⟩ := hp.len hz2; clear hp)
  go_end0
  exact ⟨rfl, by simpa using p1, k1⟩
set_option maxRecDepth 100000 in
set_option maxHeartbeats 4000000 in
theorem do29_bad (hI : IxC) (W : World) (b : Nat) (j : J) (v : Value) (hb : Bv W b v) (hv : RdV W v j) (hpl : allJ plain j = true) (hft : FT j) (hz : ¬ (pr j).length ≤ 16777216) :
    DoBad 29 #[.pointer (some ⟨W.heap.size, 0, none⟩), .pointer (some ⟨b, 0, none⟩)] (W.alloc (.cells #[.slice none 0 0] 59)) 4 0 (Kw W.heap.size W.heap.size) := by
  intro wx kx
  have hp0 : Pp W wx W.heap.size [] := (Pp.start W).keep kx
  obtain ⟨k, t, an, n, cn, ai, m, ci, rfl⟩ := hv.agg
  have hC := value_in hI W W.heap.size _ j _ [] wx (Nat.le_refl _) hv hp0 (by simp) hpl hft
  have hz2 : ¬ ([] : List UInt8).length + (pr j).length ≤ 16777216 := by rw [List.length_nil, Nat.zero_add]; exact hz
  obtain ⟨c0, c1, c2, c3⟩ := (hb.keep (((Keep.refl W).alloc _).trans kx)).cells
  clear hb hv hI hft hpl hp0 hz
  go_enter Tryd.func29, Tryd.ntmps29
  go_wp2_with (go_at_call 30; refine hC.mono ?_; clear hC; rintro e w1 hp; obtain ⟨rfl, k1⟩ := hp.not hz2; clear hp)
  exact ⟨rfl, rfl, k1⟩
theorem callFunc29 (cap : Array Value) (wx : World) : (callFunc 29 cap).run Tryd.prog wx = .ok (.enter 29 cap) wx := by kernel_rfl
theorem own_lower {B B' e s n : Nat} {w : World} {v : Value} {l : List Value} (h : w.ownsRow B e s v n l) (hB : B' ≤ B) : w.ownsRow B' e s v n l := by
  refine ⟨h.1, ?_⟩
  rcases h.2 with h2 | ⟨g, cap, cur, hv, hg, r⟩
  · exact .inl h2
  · exact .inr ⟨g, cap, cur, hv, by omega, r⟩
theorem own_none (B e s : Nat) (w : World) : w.ownsRow B e s (.slice none 0 0) 0 [] := ⟨by simp, .inl ⟨rfl, rfl⟩⟩
set_option maxRecDepth 100000 in
set_option maxHeartbeats 4000000 in
theorem Print_any (hI : IxC) (j : J) (v : Value) (w : World) (hv : RdV w v j) (hf : FT j) (hT : UT w) :
    Calls Tryd.prog 13 #[v] w fun e w' => (∃ bv, e = .returned (.tuple #[bv, .int .i64 (pe j : Nat)]) ∧ w'.ownsRow w.heap.size 5 1 bv (pt j).length (Lib.byteCells (pt j))) ∧ Keep w w' := by
  have hmf : ∀ (fn : Fn) (first cap : Array Value) (w : World), (Instr.makeFunc fn first cap).run Tryd.prog w = .ok (.func fn first cap) w := fun _ _ _ _ => rfl
  obtain ⟨k, t, an, n, cn, ai, m, ci, rfl⟩ := hv.agg
  have ka := (Keep.refl w).alloc (Obj.cells #[.int .u8 (k : Nat), .string t, .slice an n cn, .slice ai m ci] 27)
  have hb : Bv (w.alloc (Obj.cells #[.int .u8 (k : Nat), .string t, .slice an n cn, .slice ai m ci] 27)) w.heap.size (.agg #[.int .u8 (k : Nat), .string t, .slice an n cn, .slice ai m ci]) := ⟨_, _, _, _, rfl, heap_alloc_new w _⟩
  have hC := Check_any hI j _ _ (hv.keep ka) hf (hT.keep ka)
  have hv1 := hv.keep ka
  have HV : Hid (∀ W, Keep (w.alloc (Obj.cells #[.int .u8 (k : Nat), .string t, .slice an n cn, .slice ai m ci] 27)) W → RdV W (.agg #[.int .u8 (k : Nat), .string t, .slice an n cn, .slice ai m ci]) j ∧ Bv W w.heap.size (.agg #[.int .u8 (k : Nat), .string t, .slice an n cn, .slice ai m ci]) ∧ Keep w W) := fun W kk => ⟨hv1.keep kk, hb.keep kk, ka.trans kk⟩
  clear hv hv1 hT hb ka
  by_cases hc : chk j = 0
  · obtain ⟨-, hpl, -⟩ := chk_zero hc
    rw [hc] at hC
    by_cases hz : (pr j).length ≤ 16777216
    · have hpe : pe j = 0 := by unfold pe; rw [if_pos hc, if_pos hz]
      have hpt : pt j = pr j := by unfold pt; rw [if_pos hpe]
      rw [hpe, hpt]
      clear hc hpe hpt
      go_enter Tryd.func13, Tryd.ntmps13
      go_wp2_with (go_at_call 15; refine hC.mono ?_; clear hC; rintro e w2 ⟨rfl, k2⟩; obtain ⟨v2, b2, kw2⟩ := HV.out w2 k2; have hCC := caught_ok2 29 _ (w2.alloc (.cells #[.slice none 0 0] 59)) _ (callFunc29 _) (do29_ok hI w2 w.heap.size j _ b2 v2 hpl hf hz) (fun wx w' kx hlt hbx hR => by
        have hne : (w2.alloc (.cells #[.slice none 0 0] 59)).heap.size ≠ w2.heap.size := by simp
        rw [hbx]
        exact hR.2.block _ _ hbx hne (.inr (fun cur z e => by simp at e))); clear HV k2 hpl hf v2 hz)
      go_wp2_with (
        go_at_call 22
        refine hCC.mono ?_
        clear hCC
        rintro e w4 ⟨rfl, w1, w3, k1, ⟨p3, kp⟩, k4, hbf⟩
        have kk : Hid (Keep w w4) := by
          have q1 : Keep w2 w1 := ((Keep.refl w2).alloc _).trans k1
          have q3 := Kw.keep q1 kp (Nat.le_refl _)
          exact kw2.trans (Kb.keep q3 k4 (by simp))
        obtain ⟨bv, hbx, hown⟩ := p3.box
        have hb4 : w4.heap[w2.heap.size]? = some (.cells #[bv] 59 (0, 0)) := k4.at hbx (by simp)
        have ho4 : Hid (w4.ownsRow w2.heap.size 5 1 bv (pr j).length (Lib.byteCells (pr j))) := own_keep' hown (fun b o hb ho => by
          obtain ⟨-, cur, hh⟩ := own_blk hown hb
          refine k4.at ho ?_
          intro e
          rw [e, hbf] at hh
          simp at hh)
        obtain ⟨xa, xc, rfl, -⟩ := own_sl hown
        have x0 : w4.cell? ⟨w2.heap.size, 0, none⟩ = some (.slice xa (pr j).length xc) := by rw [cell_of_row w4 _ 0 _ 59 (0, 0) hb4]; rfl
        have hlt4 : w2.heap.size < w4.heap.size := (Array.getElem?_eq_some_iff.1 hb4).1
        clear k1 kp k4 hown hbx hb4 p3)
      go_ret2
      exact ⟨⟨_, rfl, by
        have ka4 := (Keep.refl w4).alloc (Obj.cells #[.int .i64 0, .int .i64 0] 50)
        exact own_lower (own_keep' ho4.out (fun b o _ hbo => ka4.at hbo)) kw2.le⟩, kk.out.alloc _⟩
    · have hpe : pe j = 4 := by unfold pe; rw [if_pos hc, if_neg hz]
      have hpt : pt j = [] := by unfold pt; rw [hpe]; rfl
      rw [hpe, hpt]
      clear hc hpe hpt
      go_enter Tryd.func13, Tryd.ntmps13
      go_wp2_with (go_at_call 15; refine hC.mono ?_; clear hC; rintro e w2 ⟨rfl, k2⟩; obtain ⟨v2, b2, kw2⟩ := HV.out w2 k2; have hCC := caught_bad 29 _ (w2.alloc (.cells #[.slice none 0 0] 59)) 4 0 _ (callFunc29 _) (do29_bad hI w2 w.heap.size j _ b2 v2 hpl hf hz) (fun wx w' kx hlt hbx hR => by
        have hne : (w2.alloc (.cells #[.slice none 0 0] 59)).heap.size ≠ w2.heap.size := by simp
        rw [hbx]
        exact hR.block _ _ hbx hne (.inr (fun cur z e => by simp at e))); clear HV k2 hpl hf v2 hz)
      go_wp2_with (go_at_call 22; refine hCC.mono ?_; clear hCC; rintro e w4 ⟨rfl, w1, w3, k1, kp, k4⟩)
      have kk : Hid (Keep w w4) := by
        have q1 : Keep w2 w1 := ((Keep.refl w2).alloc _).trans k1
        have q3 := Kw.keep q1 kp (Nat.le_refl _)
        exact kw2.trans (Kb.keep q3 k4 (by simp))
      clear k1 kp k4
      go_wp2_with fail
      go_quiet (fail)
      go_wp2_with fail
      go_ret2
      exact ⟨⟨_, rfl, own_none _ _ _ _⟩, by first | exact kk.out.alloc _ | exact (kk.out.alloc _).drewN _ | exact ((kk.out.alloc _).drewN _).drewN _⟩
  · have hpe : pe j = chk j := by unfold pe; rw [if_neg hc]
    have hpt : pt j = [] := by unfold pt; rw [hpe, if_neg hc]
    rw [hpe, hpt]
    have hcb : ((chk j : Int) != 0) = true := by rw [bne_iff_ne]; omega
    generalize chk j = C at hC hcb
    clear hc hpe hpt
    go_enter Tryd.func13, Tryd.ntmps13
    go_wp2_with (go_at_call 15; refine hC.mono ?_; clear hC; rintro e w2 ⟨rfl, k2⟩; obtain ⟨v2, b2, kw2⟩ := HV.out w2 k2; clear HV k2 v2 b2)
    go_ret2
    exact ⟨⟨_, rfl, own_none _ _ _ _⟩, kw2⟩
end Go.Proofs.YteonapeoeckhfaaDoor
