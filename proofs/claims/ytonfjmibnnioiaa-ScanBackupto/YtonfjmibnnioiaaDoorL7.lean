import Derived.Test.YtonfjmibnnioiaaDoorK1
import Derived.Test.YtonfjmibnnioiaaDoorL5
import Derived.Test.YtonfjmibnnioiaaDoorQ2
import Derived.Test.YtonfjmibnnioiaaDoorV4
import Derived.Test.YtonfjmibnnioiaaDoorY2
set_option linter.unusedVariables false
set_option linter.unusedSimpArgs false
namespace Go.Proofs.YtonfjmibnnioiaaDoor
open Go.RowKit Go.Shelf
theorem jn_len (L : List (List UInt8)) (y : UInt8) : (jnR L y).1.length ≤ tl L := by
  unfold jnR
  split
  · simp
  · split
    · simp
    · cases hj : jr y true L [] with
      | none => simp [jx]
      | some t => have := jr_len y true L [] t hj; simpa [jx] using this
set_option maxRecDepth 100000 in
set_option maxHeartbeats 4000000 in
theorem law_back (l : List UInt8) (a : Option Addr) (c : Nat) (L : List (List UInt8)) (y : UInt8) (w : World) (hT : Kt w) (hm : Ml w) (hr : RdG w a (SvL L)) (hL : tl L ≤ 4294967000) (hs : l.length ≤ 1048576) : Calls Tryd.prog 7 #[.string ⟨l.toArray⟩, .slice a L.length c, .int .u8 (y.toNat : Nat)] w fun e w' => e = .returned (.bool true) ∧ Keep w w' := by
  have h10 := lives_any w hT
  have h22 := fun wx => Quote_any l wx (by omega)
  have hq : (qt l).length ≤ 4294967000 := by unfold qt; have := qc_len l; simp only [List.length_cons, List.length_append, List.length_nil]; omega
  have h14 := fun wx (k : Keep w wx) => Words_any (qt l) wx (hT.keep k) hq
  rw [ws_qt] at h14
  have h19 := fun wx (k : Keep w wx) => Join_any a c L y wx (hm.keep k) (hr.keep k) hL
  have hjl := jn_len L y
  have hbk := back_join L y
  have hLl : L.length ≤ 4294967295 := by have := len_tl L; omega
  have h17 := fun wx => Fields_any (jnR L y).1 y wx (by omega)
  have h21 := fun a1 n1 wx (g1 : RdG wx a1 (SvL L)) (k : Keep w wx) => Texts_eq a1 a n1 c L wx g1 (hr.keep k) hLl
  have hsz := sz_mk l
  obtain ⟨⟨t, z⟩, hJ⟩ : ∃ J, jnR L y = J := ⟨_, rfl⟩
  rw [hJ] at hbk hjl
  rw [hJ] at h17
  rw [hJ] at h19
  simp only [] at hbk hjl
  obtain ⟨n, hn⟩ : ∃ n, L.length = n := ⟨_, rfl⟩
  rw [hn] at h19 h21 ⊢
  clear hJ hr hm hT hq
  by_cases hz : z = 0
  · subst hz
    have hb2 := hbk rfl
    have g17 : ∀ wx, Calls Tryd.prog 17 #[.string ⟨t.toArray⟩, .int .u8 (y.toNat : Nat)] wx fun e w' => ∃ a5 n5, e = .returned (.tuple #[.slice a5 n n5, .int .i64 0, .int .i64 0]) ∧ RdG w' a5 (SvL L) ∧ Keep wx w' := by
      intro wx
      refine (h17 wx).mono fun e w' ⟨v, he, o, k⟩ => ?_
      rw [hb2] at he o
      have o' : World.ownsRow w' wx.heap.size 9 1 v L.length (SvL L) := o
      rw [hn] at o'
      obtain ⟨a5, n5, rfl, _, g⟩ := own_rdg o'
      exact ⟨a5, n5, he, g, k⟩
    clear hb2 hbk h17
    by_cases hlong : 65536 < l.length
    · rw [if_pos hlong] at h14
      have hlc : decide ((l.length : Int) > 65536) = true := decide_eq_true (by omega)
      have g14 : ∀ wx, Keep w wx → Calls Tryd.prog 14 #[.string ⟨(qt l).toArray⟩] wx fun e w' => ∃ a3 n3, e = .returned (.tuple #[.slice a3 0 n3, .int .i64 4, .int .i64 0]) ∧ Keep wx w' := by
        intro wx k
        refine (h14 wx k).mono fun e w' ⟨v, he, o, k⟩ => ?_
        have o' : World.ownsRow w' wx.heap.size 44 3 v 0 (WvL []) := o
        obtain ⟨a5, n5, rfl, _⟩ := own_len o'
        exact ⟨a5, n5, he, k⟩
      clear h14
      go_enter Tryd.func7, Tryd.ntmps7
      go_wp2_with (first
        | (go_at_call 10; refine h10.mono ?_; rintro e w1 ⟨rfl, k1⟩)
        | (go_at_call 22; refine (h22 _).mono ?_; rintro e w2 ⟨rfl, k2⟩; have q2 := Keep.trans k1 k2)
        | (go_at_call 14; refine (g14 _ q2).mono ?_; rintro e w3 ⟨a3, n3, rfl, k3⟩
           have q3 := Keep.trans q2 k3)
        | (go_at_call 19; refine (h19 _ q3).mono ?_; rintro e w4 ⟨rfl, k4⟩; have q4 := Keep.trans q3 k4)
        | (go_at_call 17; refine (g17 _).mono ?_; rintro e w5 ⟨a5, n5, rfl, g5, k5⟩
           have q5 := Keep.trans q4 k5
           have hE := h21 a5 n5 w5 g5 q5)
        | (go_at_call 21; refine hE.mono ?_; rintro e w6 ⟨rfl, k6⟩))
      go_ret
      exact ⟨rfl, Keep.trans q5 k6⟩
    · rw [if_neg hlong] at h14
      have hlc : decide ((l.length : Int) > 65536) = false := decide_eq_false (by omega)
      have g14 : ∀ wx, Keep w wx → Calls Tryd.prog 14 #[.string ⟨(qt l).toArray⟩] wx fun e w' => ∃ b3 p3 n3, e = .returned (.tuple #[.slice (some ⟨b3, p3, none⟩) 1 n3, .int .i64 0, .int .i64 0]) ∧ 1 ≤ n3 ∧ w'.cell? ⟨b3, p3, none⟩ = some (.int .u8 3) ∧ w'.cell? ⟨b3, p3 + 1, none⟩ = some (.string ⟨l.toArray⟩) ∧ w'.cell? ⟨b3, p3 + 2, none⟩ = some (.int .i64 0) ∧ Keep wx w' := by
        intro wx k
        refine (h14 wx k).mono fun e w' ⟨v, he, o, k⟩ => ?_
        have o' : World.ownsRow w' wx.heap.size 44 3 v 1 (WvL [(3, l, 0)]) := o
        obtain ⟨a5, n5, rfl, hn5, g3⟩ := own_rdg o'
        obtain ⟨b3, p3, rfl, x0⟩ := g3 0 _ rfl
        obtain ⟨_, _, r3, x1⟩ := g3 1 _ rfl
        cases r3
        obtain ⟨_, _, r3, x2⟩ := g3 2 _ rfl
        cases r3
        exact ⟨b3, p3, n5, he, hn5, x0, x1, x2, k⟩
      clear h14
      go_enter Tryd.func7, Tryd.ntmps7
      go_wp2_with (first
        | (go_at_call 10; refine h10.mono ?_; rintro e w1 ⟨rfl, k1⟩)
        | (go_at_call 22; refine (h22 _).mono ?_; rintro e w2 ⟨rfl, k2⟩; have q2 := Keep.trans k1 k2)
        | (go_at_call 14; refine (g14 _ q2).mono ?_; rintro e w3 ⟨b3, p3, n3, rfl, hn3, x0, x1, x2, k3⟩
           have q3 := Keep.trans q2 k3)
        | (go_at_call 19; refine (h19 _ q3).mono ?_; rintro e w4 ⟨rfl, k4⟩; have q4 := Keep.trans q3 k4)
        | (go_at_call 17; refine (g17 _).mono ?_; rintro e w5 ⟨a5, n5, rfl, g5, k5⟩
           have q5 := Keep.trans q4 k5
           have hE := h21 a5 n5 w5 g5 q5)
        | (go_at_call 21; refine hE.mono ?_; rintro e w6 ⟨rfl, k6⟩))
      go_ret
      exact ⟨rfl, Keep.trans q5 k6⟩
  · clear hbk h17 h21
    have hzc : ((z : Int) != 0) = true := by rw [bne_iff_ne]; omega
    by_cases hlong : 65536 < l.length
    · rw [if_pos hlong] at h14
      have hlc : decide ((l.length : Int) > 65536) = true := decide_eq_true (by omega)
      have g14 : ∀ wx, Keep w wx → Calls Tryd.prog 14 #[.string ⟨(qt l).toArray⟩] wx fun e w' => ∃ a3 n3, e = .returned (.tuple #[.slice a3 0 n3, .int .i64 4, .int .i64 0]) ∧ Keep wx w' := by
        intro wx k
        refine (h14 wx k).mono fun e w' ⟨v, he, o, k⟩ => ?_
        have o' : World.ownsRow w' wx.heap.size 44 3 v 0 (WvL []) := o
        obtain ⟨a5, n5, rfl, _⟩ := own_len o'
        exact ⟨a5, n5, he, k⟩
      clear h14
      go_enter Tryd.func7, Tryd.ntmps7
      go_wp2_with (first
        | (go_at_call 10; refine h10.mono ?_; rintro e w1 ⟨rfl, k1⟩)
        | (go_at_call 22; refine (h22 _).mono ?_; rintro e w2 ⟨rfl, k2⟩; have q2 := Keep.trans k1 k2)
        | (go_at_call 14; refine (g14 _ q2).mono ?_; rintro e w3 ⟨a3, n3, rfl, k3⟩
           have q3 := Keep.trans q2 k3)
        | (go_at_call 19; refine (h19 _ q3).mono ?_; rintro e w4 ⟨rfl, k4⟩; have q4 := Keep.trans q3 k4)
        | (go_at_call 17; refine (g17 _).mono ?_; rintro e w5 ⟨a5, n5, rfl, g5, k5⟩
           have q5 := Keep.trans q4 k5
           have hE := h21 a5 n5 w5 g5 q5)
        | (go_at_call 21; refine hE.mono ?_; rintro e w6 ⟨rfl, k6⟩))
      go_ret
      exact ⟨rfl, q4⟩
    · rw [if_neg hlong] at h14
      have hlc : decide ((l.length : Int) > 65536) = false := decide_eq_false (by omega)
      have g14 : ∀ wx, Keep w wx → Calls Tryd.prog 14 #[.string ⟨(qt l).toArray⟩] wx fun e w' => ∃ b3 p3 n3, e = .returned (.tuple #[.slice (some ⟨b3, p3, none⟩) 1 n3, .int .i64 0, .int .i64 0]) ∧ 1 ≤ n3 ∧ w'.cell? ⟨b3, p3, none⟩ = some (.int .u8 3) ∧ w'.cell? ⟨b3, p3 + 1, none⟩ = some (.string ⟨l.toArray⟩) ∧ w'.cell? ⟨b3, p3 + 2, none⟩ = some (.int .i64 0) ∧ Keep wx w' := by
        intro wx k
        refine (h14 wx k).mono fun e w' ⟨v, he, o, k⟩ => ?_
        have o' : World.ownsRow w' wx.heap.size 44 3 v 1 (WvL [(3, l, 0)]) := o
        obtain ⟨a5, n5, rfl, hn5, g3⟩ := own_rdg o'
        obtain ⟨b3, p3, rfl, x0⟩ := g3 0 _ rfl
        obtain ⟨_, _, r3, x1⟩ := g3 1 _ rfl
        cases r3
        obtain ⟨_, _, r3, x2⟩ := g3 2 _ rfl
        cases r3
        exact ⟨b3, p3, n5, he, hn5, x0, x1, x2, k⟩
      clear h14
      go_enter Tryd.func7, Tryd.ntmps7
      go_wp2_with (first
        | (go_at_call 10; refine h10.mono ?_; rintro e w1 ⟨rfl, k1⟩)
        | (go_at_call 22; refine (h22 _).mono ?_; rintro e w2 ⟨rfl, k2⟩; have q2 := Keep.trans k1 k2)
        | (go_at_call 14; refine (g14 _ q2).mono ?_; rintro e w3 ⟨b3, p3, n3, rfl, hn3, x0, x1, x2, k3⟩
           have q3 := Keep.trans q2 k3)
        | (go_at_call 19; refine (h19 _ q3).mono ?_; rintro e w4 ⟨rfl, k4⟩; have q4 := Keep.trans q3 k4)
        | (go_at_call 17; refine (g17 _).mono ?_; rintro e w5 ⟨a5, n5, rfl, g5, k5⟩
           have q5 := Keep.trans q4 k5
           have hE := h21 a5 n5 w5 g5 q5)
        | (go_at_call 21; refine hE.mono ?_; rintro e w6 ⟨rfl, k6⟩))
      go_ret
      exact ⟨rfl, q4⟩
end Go.Proofs.YtonfjmibnnioiaaDoor
