import Derived.Test.YteonapeoeckhfaaDoorR3
set_option linter.unusedVariables false
set_option linter.unusedSimpArgs false
namespace Go.Proofs.YteonapeoeckhfaaDoor
open Go.RowKit Go.Shelf
/-- Bytes that a slice holds. -/
def BV (w : World) (v : Value) (l : List UInt8) : Prop := ∃ a c, v = .slice a l.length c ∧ RdB w a l
theorem BV.keep {w w' : World} {v : Value} {l : List UInt8} (h : BV w v l) (k : Keep w w') : BV w' v l := by
  obtain ⟨a, c, e, h⟩ := h
  refine ⟨a, c, e, fun j hj => ?_⟩
  obtain ⟨tb, o, e2, hc⟩ := h j hj
  exact ⟨tb, o, e2, k.cell hc⟩
theorem BV.conv {w : World} {v : Value} {l : List UInt8} (h : BV w v l) : (convert 22 9 v).run Tryd.prog w = .ok (.string ⟨l.toArray⟩) w := by
  obtain ⟨a, c, rfl, h⟩ := h
  by_cases h0 : 0 < l.length
  · obtain ⟨tb, o, rfl, -⟩ := h 0 h0
    refine convB w tb o c l (fun j hj => ?_)
    obtain ⟨tb2, o2, e, hc⟩ := h j hj
    simp only [Option.some.injEq, Addr.mk.injEq, and_true] at e
    obtain ⟨rfl, rfl⟩ := e
    exact hc
  · have e : l = [] := List.eq_nil_of_length_eq_zero (by omega)
    subst e
    cases a with
    | none => exact run_convert_bytes_nil (P := Tryd.prog) w 22 5 Tryd.underlying22 Tryd.underlying5 0 c 9 Tryd.underlying9
    | some a =>
      have := run_convert_bytes_string (P := Tryd.prog) w 22 9 5 (some a) 0 c Tryd.underlying22 Tryd.underlying5 Tryd.underlying9
      rw [show ([] : List UInt8).length = 0 from rfl, this]
      simp [Conv.bytesToString]
      first | rfl | skip
theorem BV.of_own {B : Nat} {w : World} {v : Value} {l : List UInt8} (h : OwnB B w v l) : BV w v l := by
  obtain ⟨a, c, e, -⟩ := own_sl h
  refine ⟨a, c, e, fun j hj => ?_⟩
  rcases h.2 with ⟨-, h2⟩ | ⟨g, cap, cur, hv, hg, hh, r⟩
  · omega
  · rw [e] at hv
    simp only [Value.slice.injEq] at hv
    obtain ⟨rfl, -, rfl⟩ := hv
    refine ⟨g, 0, rfl, ?_⟩
    have := World.ownsRow.cells (v := v) h (g := g) (by rw [e]; rfl) j (.int .u8 ((l.getD j 0).toNat : Int)) (by simp [Lib.byteCells, List.getD, hj])
    have e2 : (⟨g, 0, none⟩ : Addr).add j = ⟨g, 0 + j, none⟩ := by
      unfold Addr.add
      split <;> simp_all
    rw [e2] at this
    exact this
theorem BV.nil (w : World) : BV w (.slice none 0 0) [] := ⟨none, 0, rfl, fun j hj => by simp at hj⟩
set_option maxRecDepth 100000 in
set_option maxHeartbeats 4000000 in
theorem rPrint_any (j : J) (v : Value) (w : World) (hv : RdV w v j) (hbl : blk j ≤ 1048576) :
    Calls Tryd.prog 14 #[v] w fun e w' => (∃ bv, e = .returned (.tuple #[bv, .int .i64 (pe j : Nat)]) ∧ BV w' bv (pt j)) ∧ Keep w w' := by
  obtain ⟨k, t, an, n, cn, ai, m, ci, rfl⟩ := hv.agg
  have ka := (Keep.refl w).alloc (Obj.cells #[.int .u8 (k : Nat), .string t, .slice an n cn, .slice ai m ci] 27)
  have hb : Bv (w.alloc (Obj.cells #[.int .u8 (k : Nat), .string t, .slice an n cn, .slice ai m ci] 27)) w.heap.size (.agg #[.int .u8 (k : Nat), .string t, .slice an n cn, .slice ai m ci]) := ⟨_, _, _, _, rfl, heap_alloc_new w _⟩
  have hC := rCheck_any j _ _ (hv.keep ka) hbl
  have hP := fun (hc : chk j = 0) wx (kk : Keep (w.alloc (Obj.cells #[.int .u8 (k : Nat), .string t, .slice an n cn, .slice ai m ci] 27)) wx) => rprinted_in _ j _ wx (Nat.le_refl _) (hv.keep (ka.trans kk)) (chk_zero hc).2.1 hbl
  have HB : Hid (∀ wx, Keep (w.alloc (Obj.cells #[.int .u8 (k : Nat), .string t, .slice an n cn, .slice ai m ci] 27)) wx → Bv wx w.heap.size (.agg #[.int .u8 (k : Nat), .string t, .slice an n cn, .slice ai m ci])) := fun wx kk => hb.keep kk
  have hl := pr_len _ j (Nat.le_refl _)
  clear hv hb
  by_cases hc : chk j = 0
  · have hp := hP hc
    rw [hc] at hC
    have hq : (pr j).length ≤ 16777216 := by omega
    have hpe : pe j = 0 := by unfold pe; rw [if_pos hc, if_pos hq]
    have hpt : pt j = pr j := by unfold pt; rw [if_pos hpe]
    rw [hpe, hpt]
    clear hpe hpt hP hc hl hbl
    have hsz : (ByteArray.mk (pr j).toArray).size = (pr j).length := sz_mk _
    have hco := fun wx => bytes_of (pr j) wx
    generalize pr j = T at *
    obtain ⟨q, hqq⟩ : ∃ q, T.length = q := ⟨_, rfl⟩
    have HQ : Hid (T.length = q) := hqq
    rw [hqq] at hsz hco hq
    have g1 : ¬ ((q : Int) > 16777216) := by omega
    have g2 : decide ((16777216 : Int) < (q : Int)) = false := decide_eq_false (by omega)
    have g3 : ¬ 16777216 < q := by omega
    clear hqq
    go_enter Tryd.func14, Tryd.ntmps14
    go_wp2_with (first
      | (go_at_call 16; refine hC.mono ?_; clear hC; rintro e w2 ⟨rfl, k2⟩; have hp2 := hp w2 k2; clear hp; obtain ⟨c0, c1, c2, c3⟩ := (HB.out w2 k2).cells)
      | (go_at_call 31; refine hp2.mono ?_; clear hp2; rintro e w3 ⟨rfl, k3⟩; obtain ⟨cc, wz, hcv, kz, -, hrd, hlc⟩ := hco w3; clear hco; replace hlc : Hid _ := hlc; replace hrd : Hid _ := hrd))
    go_ret2
    exact ⟨⟨_, rfl, ⟨_, _, by rw [HQ.out]; rfl, hrd.out⟩⟩, ((ka.trans k2).trans k3).trans kz⟩
  · have hpe : pe j = chk j := by unfold pe; rw [if_neg hc]
    have hpt : pt j = [] := by unfold pt; rw [hpe, if_neg hc]
    rw [hpe, hpt]
    have hcb : ((chk j : Int) != 0) = true := by rw [bne_iff_ne]; omega
    have hcz : ¬ ((chk j : Int) = 0) := by omega
    generalize chk j = C at hC hcb hcz
    clear hc hpe hpt hP hl hbl
    go_enter Tryd.func14, Tryd.ntmps14
    go_wp2_with (go_at_call 16; refine hC.mono ?_; clear hC; rintro e w2 ⟨rfl, k2⟩)
    go_ret2
    exact ⟨⟨_, rfl, BV.nil _⟩, ka.trans k2⟩
end Go.Proofs.YteonapeoeckhfaaDoor
