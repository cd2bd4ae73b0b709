import Derived.Test.YtolfaheabdedpaaX5
import Derived.Deep.Cut
set_option linter.unusedVariables false
set_option linter.unusedSimpArgs false
namespace Go.Proofs.Ytolfaheabdedpaa
open Go.RowKit Go.Shelf
/-- A lane's box is as it was. -/
def Held (wk : World) (X : Nat → Nat) (b : Nat) (wx : World) : Prop :=
  Keep wk wx ∧ wx.cell? ⟨b, 0, none⟩ = some (.float .f64 (X 0)) ∧ wx.cell? ⟨b, 1, none⟩ = some (.float .f64 (X 1)) ∧ wx.cell? ⟨b, 2, none⟩ = some (.float .f64 (X 2)) ∧ wx.cell? ⟨b, 3, none⟩ = some (.float .f64 (X 3)) ∧ wx.cell? ⟨b, 4, none⟩ = some (.float .f64 (X 4)) ∧ wx.cell? ⟨b, 5, none⟩ = some (.float .f64 (X 5)) ∧ wx.cell? ⟨b, 6, none⟩ = some (.float .f64 (X 6)) ∧ wx.cell? ⟨b, 7, none⟩ = some (.float .f64 (X 7))
theorem held_mk {wk wx : World} {X : Nat → Nat} {b : Nat} (h : ∀ i, i < 8 → wk.cell? ⟨b, i, none⟩ = some (.float .f64 (X i))) (k : Keep wk wx) : Held wk X b wx :=
  ⟨k, k.cell (h 0 (by omega)), k.cell (h 1 (by omega)), k.cell (h 2 (by omega)), k.cell (h 3 (by omega)), k.cell (h 4 (by omega)), k.cell (h 5 (by omega)), k.cell (h 6 (by omega)), k.cell (h 7 (by omega))⟩
set_option maxRecDepth 100000 in
set_option maxHeartbeats 4000000 in
theorem law_bits (X : Nat → Nat) (t : Nat) (a : Option Addr) (c : Nat) (l : List Int) (w : World) (hl : l.length ≤ 17592186044416) (hr : RdI w a l) :
    Calls Try.prog 4 #[LV X, .float .f64 t, .slice a l.length c] w fun e w' => e = .returned (.bool true) ∧ Keep w w' := by
  have k0 : Keep w (w.alloc (LC X)) := (Keep.refl w).alloc _
  have hr0 := hr.keep k0
  have hcell : Hid (∀ i, i < 8 → (w.alloc (LC X)).cell? ⟨w.heap.size, i, none⟩ = some (.float .f64 (X i))) := fun i hi => laneCell X w i hi
  have hsz : (w.alloc (LC X)).heap.size = w.heap.size + 1 := World.size_alloc _ _
  go_enter Try.func4, Try.ntmps4
  go_upto_region 2 with (at_builtin; refine wpList_copyZe (wr := w.alloc (LC X)) rfl _ _ rfl l a c _ hsz rfl rfl hr0 hl ?_; intro v1 w1 o1 k1)
  obtain ⟨a1, c1, rfl, -, r1⟩ := o1.shape
  have hc1 : ∀ i, i < 8 → w1.cell? ⟨w.heap.size, i, none⟩ = some (.float .f64 (X i)) := fun i hi => k1.cell (hcell.out i hi)
  have hm := fun (wx : World) (k : Keep w1 wx) => held_mk hc1 k
  have hr1 := hr0.keep k1
  have h14 := fun (wx : World) => Above_any X t wx
  have h15 := fun (wx : World) => rAbove_any X t wx
  have h16 := fun (wx : World) (k : Keep w1 wx) => Outside_any X a1 c1 l wx hl (r1.keep k)
  have h17 := fun (wx : World) (k : Keep w1 wx) => rOutside_any X a c l wx hl (hr1.keep k)
  have h18 := fun (wx : World) => Lost_any X wx
  have h19 := fun (wx : World) => rLost_any X wx
  have h20 := fun (wx : World) (k : Keep w1 wx) => rInts_any a1 a c1 c l l wx hl (r1.keep k) (hr1.keep k)
  have k01 := k0.trans k1
  simp only [decide_true] at h20
  generalize bt (fun i => gtB t (X i)) 8 = n1 at *
  generalize bt (fun i => nanB (X i)) 8 = n2 at *
  generalize ouK X l l.length = n3 at *
  generalize w.heap.size = bx at *
  generalize l.length = n at *
  have KD : Keep w1 w1.drew := (Keep.refl w1).drew
  have SK0 := hm _ KD
  unfold Held at *
  clear hc1 hcell hr1 r1 o1 hsz
  go_wp2_with fail
  go_region_held3 (fun wx => Keep w1 wx ∧ wx.cell? ⟨bx, 0, none⟩ = some (.float .f64 (X 0)) ∧ wx.cell? ⟨bx, 1, none⟩ = some (.float .f64 (X 1)) ∧ wx.cell? ⟨bx, 2, none⟩ = some (.float .f64 (X 2)) ∧ wx.cell? ⟨bx, 3, none⟩ = some (.float .f64 (X 3)) ∧ wx.cell? ⟨bx, 4, none⟩ = some (.float .f64 (X 4)) ∧ wx.cell? ⟨bx, 5, none⟩ = some (.float .f64 (X 5)) ∧ wx.cell? ⟨bx, 6, none⟩ = some (.float .f64 (X 6)) ∧ wx.cell? ⟨bx, 7, none⟩ = some (.float .f64 (X 7))) (first | with_reducible exact SK7 | with_reducible exact SK6 | with_reducible exact SK5 | with_reducible exact SK4 | with_reducible exact SK3 | with_reducible exact SK2 | with_reducible exact SK1 | with_reducible exact SK0) (first
    | (go_at_call 14; refine (h14 _).mono ?_; rintro e wA ⟨rfl, ka⟩; have kA := KD.trans ka; have SK1 := hm _ kA)
    | (go_at_call 15; refine (h15 _).mono ?_; rintro e wB ⟨rfl, kb⟩; have kB := kA.trans kb; have SK2 := hm _ kB)
    | (go_at_call 16; refine (h16 _ kB).mono ?_; rintro e wC ⟨rfl, kc⟩; have kC := kB.trans kc; have SK3 := hm _ kC)
    | (go_at_call 17; refine (h17 _ kC).mono ?_; rintro e wE ⟨rfl, ke⟩; have kE := kC.trans ke; have SK4 := hm _ kE)
    | (go_at_call 18; refine (h18 _).mono ?_; rintro e wF ⟨rfl, kf⟩; have kF := kE.trans kf; have SK5 := hm _ kF)
    | (go_at_call 19; refine (h19 _).mono ?_; rintro e wG ⟨rfl, kg⟩; have kG := kF.trans kg; have SK6 := hm _ kG)
    | (go_at_call 20; refine (h20 _ kG).mono ?_; rintro e wH ⟨rfl, kh⟩; have kH := kG.trans kh; have SK7 := hm _ kH))
  all_goals
    go_simp
    go_wp2_with fail
    go_ret
    exact ⟨rfl, k01.trans kH⟩
end Go.Proofs.Ytolfaheabdedpaa
