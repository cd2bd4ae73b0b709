import Derived.Test.YtonfjmibnnioiaaDoorP2
import Derived.Test.YtonfjmibnnioiaaDoorP5
import Derived.Test.YtonfjmibnnioiaaDoorQ2
import Derived.Test.YtonfjmibnnioiaaDoorY1
set_option linter.unusedVariables false
set_option linter.unusedSimpArgs false
namespace Go.Proofs.YtonfjmibnnioiaaDoor
open Go.RowKit Go.Shelf
set_option maxRecDepth 100000 in
set_option maxHeartbeats 2000000 in
theorem law_texts (l : List UInt8) (a : Int) (w : World) (hT : Kt w) (hs : l.length ≤ 4294967000) : Calls Tryd.prog 6 #[.string ⟨l.toArray⟩, .int .i64 a] w fun e w' => e = .returned (.bool true) ∧ Keep w w' := by
  have hL := lives_any w hT
  have h22 := fun wx => Quote_any l wx (by omega)
  have h23 := fun wx => rQuote_any l wx (by omega)
  have h24 := fun wx (h : Kt wx) => Name_any l wx h (by omega)
  have h25 := fun wx => rName_any l wx (by omega)
  have h26 := fun wx => Blank_any l wx
  have h27 := fun wx => rBlank_any l wx (by omega)
  have h28 := fun wx => Column_any l a wx (by omega)
  have h29 := fun wx => rColumn_any l a wx (by omega)
  have hT : Hid (Kt w) := hT
  generalize qt l = q at *
  generalize colA l a 0 1 = col at *
  obtain ⟨nb, hnb⟩ : ∃ nb, nmB l = nb := ⟨_, rfl⟩
  obtain ⟨bb, hbb⟩ : ∃ bb, bkB l = bb := ⟨_, rfl⟩
  rw [hnb] at h24 h25
  rw [hbb] at h26 h27
  clear hnb hbb
  replace h24 : Hid _ := h24
  cases nb <;> cases bb <;>
    (go_enter Tryd.func6, Tryd.ntmps6
     go_wp2_with (first
       | (go_at_call 10; refine hL.mono ?_; rintro e w1 ⟨rfl, k1⟩)
       | (go_at_call 22; refine (h22 _).mono ?_; rintro e w2 ⟨rfl, k2⟩)
       | (go_at_call 23; refine (h23 _).mono ?_; rintro e w3 ⟨rfl, k3⟩; have k13 := (k1.trans k2).trans k3; have hT3 := Kt.keep hT.out k13)
       | (go_at_call 24; refine (h24.out _ hT3).mono ?_; rintro e w0 ⟨rfl, hw0⟩; rw [hw0]; clear hw0)
       | (go_at_call 25; refine (h25 _).mono ?_; rintro e w0 ⟨rfl, hw0⟩; rw [hw0]; clear hw0)
       | (go_at_call 26; refine (h26 _).mono ?_; rintro e w4 ⟨rfl, k4⟩)
       | (go_at_call 27; refine (h27 _).mono ?_; rintro e w0 ⟨rfl, hw0⟩; rw [hw0]; clear hw0)
       | (go_at_call 28; refine (h28 _).mono ?_; rintro e w5 ⟨rfl, k5⟩)
       | (go_at_call 29; refine (h29 _).mono ?_; rintro e w0 ⟨rfl, hw0⟩; rw [hw0]; clear hw0))
     go_ret
     exact ⟨rfl, (k13.trans k4).trans k5⟩)
end Go.Proofs.YtonfjmibnnioiaaDoor
