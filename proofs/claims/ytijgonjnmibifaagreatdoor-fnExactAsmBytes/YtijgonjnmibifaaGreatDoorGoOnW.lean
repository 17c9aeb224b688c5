/- impl.findHeights' closure: to go on to a place. -/
import Derived.Test.YtijgonjnmibifaaGreatDoorRiseW
import Derived.Test.YtijgonjnmibifaaGreatDoorMapI
namespace Go.Proofs.YtijgonjnmibifaaGreatDoor
open Go.RowKit

theorem Box.grown {w w' : World} {B : Nat} {C : Array Value} {row : Option Nat} (h : Box w B C) (hg : w.grownBy w' row) (hne : some B ≠ row) : Box w' B C :=
  ⟨Nat.lt_of_lt_of_le h.1 hg.size, fun j => by rw [World.cell?_of_block (w := w) (hg.block B h.1 hne)]; exact h.2 j⟩

theorem VRow.grown {w w' : World} {b : Nat} {vs : List Value} {row : Option Nat} (h : VRow w b vs) (hg : w.grownBy w' row) (hne : some b ≠ row) : VRow w' b vs :=
  ⟨Nat.lt_of_lt_of_le h.1 hg.size, fun j hj => by rw [World.cell?_of_block (w := w) (hg.block b h.1 hne), World.frozen?_of_block (w := w) (hg.block b h.1 hne)]; exact h.2 j hj⟩

/-- what stands in memory as heights are found; what waits does not lie in block G -/
structure ImS (w wr : World) (G : Nat) (prg ins : Value) (s : IS) : Prop where
  box : Box wr w.heap.size #[prg]
  hb : VRow wr (w.heap.size + 1) [.map (some (w.heap.size + 1 + 1 + 1))]
  ib : Box wr (w.heap.size + 1 + 1) #[ins]
  map : MapH wr (w.heap.size + 1 + 1 + 1) s.m
  wb : ∃ b off cap, VRow wr (w.heap.size + 1 + 1 + 1 + 1 + 1) [.slice (some ⟨b, off, none⟩) s.L.length cap] ∧ OwnAt (w.heap.size + 1 + 1 + 1 + 1) wr b off cap (nats s.L) ∧ b ≠ w.heap.size + 1 + 1 + 1 + 1 + 1 ∧ b ≠ G
  bel : Below w.heap.size w wr

theorem ImS.below {w wr w1 : World} {G : Nat} {prg ins : Value} {s : IS} (h : ImS w wr G prg ins s) (hb : Below wr.heap.size wr w1) : ImS w w1 G prg ins s := by
  obtain ⟨b, off, cap, h1, h2, h3⟩ := h.wb
  exact ⟨h.box.below hb, h.hb.below hb, h.ib.below hb, h.map.below hb, ⟨b, off, cap, h1.below hb, h2.below hb, h3⟩, h.bel.trans (hb.mono h.bel.size)⟩

theorem ImS.setWaits {w wr : World} {G : Nat} {prg ins : Value} {s : IS} (h : ImS w wr G prg ins s) (L : List Nat) (b off n cap : Nat) (ho : OwnAt (w.heap.size + 1 + 1 + 1 + 1) wr b off cap (nats L)) (hb : b ≠ w.heap.size + 1 + 1 + 1 + 1 + 1) (hG : b ≠ G) (hn : n = L.length) :
    ImS w (wr.setCell ⟨w.heap.size + 1 + 1 + 1 + 1 + 1, 0, none⟩ (.slice (some ⟨b, off, none⟩) n cap)) G prg ins ⟨s.m, L⟩ := by
  subst hn
  obtain ⟨b0, off0, cap0, h1, _, _⟩ := h.wb
  exact ⟨h.box.set_far _ _ (by show w.heap.size + 1 + 1 + 1 + 1 + 1 ≠ w.heap.size; omega), h.hb.set_far _ _ (by show w.heap.size + 1 + 1 + 1 + 1 + 1 ≠ w.heap.size + 1; omega),
    h.ib.set_far _ _ (by show w.heap.size + 1 + 1 + 1 + 1 + 1 ≠ w.heap.size + 1 + 1; omega), h.map.setFar _ _ (by show w.heap.size + 1 + 1 + 1 ≠ w.heap.size + 1 + 1 + 1 + 1 + 1; omega),
    ⟨b, off, cap, h1.set_at 0 _ (by simp), ho.setFar _ _ (by exact hb), hb, hG⟩, h.bel.setCell (by show w.heap.size ≤ w.heap.size + 1 + 1 + 1 + 1 + 1; omega) _⟩

/-- another block that came later -/
theorem ImS.other {w wr w1 : World} {G : Nat} {prg ins : Value} {s : IS} (h : ImS w wr G prg ins s) (hb : Below wr.heap.size wr w1) (G' : Nat) (hG : wr.heap.size ≤ G' ∨ G' ≤ w.heap.size) : ImS w w1 G' prg ins s := by
  obtain ⟨b, off, cap, h1, h2, h3, _⟩ := h.wb
  have hl := h2.low
  have ht := h2.lt
  exact ⟨h.box.below hb, h.hb.below hb, h.ib.below hb, h.map.below hb, ⟨b, off, cap, h1.below hb, h2.below hb, h3, by omega⟩, h.bel.trans (hb.mono h.bel.size)⟩

set_option maxRecDepth 100000 in
set_option maxHeartbeats 1600000 in
theorem implGoOn (w wr : World) (G : Nat) (prg : Value) (Ac : Option Addr) (n capc : Nat) (s : IS) (next : Int) (t : Nat) (h : ImS w wr G prg (.slice Ac n capc) s) (hG : G < wr.heap.size) (hG3 : G ≠ w.heap.size + 1 + 1 + 1) (hG5 : G ≠ w.heap.size + 1 + 1 + 1 + 1 + 1) (ho : IOk n s) (hn : n ≤ 1048576) (ht : t ≤ n) (hx : (Lit.int .i64 next).wf = true) :
    Calls Tryz.prog 94 #[.int .i64 t, .int .i64 next, .pointer (some ⟨w.heap.size + 1 + 1, 0, none⟩), .pointer (some ⟨w.heap.size + 1, 0, none⟩), .pointer (some ⟨w.heap.size + 1 + 1 + 1 + 1 + 1, 0, none⟩)] wr fun e w' =>
      match stepI next t s with
      | .inl s' => e = .returned (.int .i64 0) ∧ ImS w w' G prg (.slice Ac n capc) s' ∧ w'.heap[G]? = wr.heap[G]? ∧ wr.heap.size ≤ w'.heap.size
      | .inr c => e = .returned (.int .i64 c) ∧ ImS w w' G prg (.slice Ac n capc) s ∧ w'.heap[G]? = wr.heap[G]? ∧ wr.heap.size ≤ w'.heap.size := by
  have Hh : Hid (ImS w wr G prg (.slice Ac n capc) s) := h
  have Ho : Hid (IOk n s) := ho
  have hl := ho.len
  have c0 := h.ib.at0
  have c1 := (h.hb.2 0 (by simp)).1
  have z0 := h.ib.1
  have z1 := h.hb.1
  simp only [List.getElem_cons_zero] at c1
  clear h ho
  by_cases h6 : t = n
  · subst h6
    have HS : Hid (stepI next t s = .inr 6) := by
      show stepI next t s = .inr 6
      unfold stepI
      rw [if_pos (by rw [hl])]
    rw [HS.out]
    go_enter Tryz.func94, Tryz.ntmps94
    go_wp2_with fail
    go_ret
    exact ⟨rfl, Hh.out, rfl, Nat.le_refl _⟩
  · have ht' : t < s.m.length := by omega
    obtain ⟨hlook, _⟩ := Hh.out.map.look (by omega) t ht'
    have hne : ((t : Int) == (n : Int)) = false := by simp; omega
    cases hm : s.m.getD t none with
    | some hh =>
      rw [hm] at hlook
      simp only [Option.getD_some, Option.isSome_some] at hlook
      by_cases hq : hh = next
      · subst hq
        have HS : Hid (stepI hh t s = .inl s) := by
          show stepI hh t s = .inl s
          unfold stepI
          rw [if_neg (by rw [hl]; omega), Int.toNat_natCast, hm]
          simp
        rw [HS.out]
        clear hm
        go_enter Tryz.func94, Tryz.ntmps94
        go_wp2_with fail
        go_ret
        exact ⟨rfl, Hh.out, rfl, Nat.le_refl _⟩
      · have HS : Hid (stepI next t s = .inr 5) := by
          show stepI next t s = .inr 5
          unfold stepI
          rw [if_neg (by rw [hl]; omega), Int.toNat_natCast, hm]
          simp [hq]
        rw [HS.out]
        have hq' : (hh != next) = true := by simpa using hq
        clear hm
        go_enter Tryz.func94, Tryz.ntmps94
        go_wp2_with fail
        go_ret
        exact ⟨rfl, Hh.out, rfl, Nat.le_refl _⟩
    | none =>
      rw [hm] at hlook
      simp only [Option.getD_none, Option.isSome_none] at hlook
      have HS : Hid (stepI next t s = .inl ⟨s.m.set t (some next), putIn t s.L⟩) := by
        show stepI next t s = _
        unfold stepI
        rw [if_neg (by rw [hl]; omega), Int.toNat_natCast, hm]
      rw [HS.out]
      obtain ⟨w1, hup, hM1, hg1, hsz1⟩ := Hh.out.map.update (by omega) t ht' hm next hx
      obtain ⟨b, off, cap, hw1, hO1, hbn, hbG⟩ := Hh.out.wb
      have hlow := hO1.low
      have HW : Hid (VRow w1 (w.heap.size + 1 + 1 + 1 + 1 + 1) [.slice (some ⟨b, off, none⟩) s.L.length cap]) := hw1.grown hg1 (by simp; omega)
      have HO : Hid (OwnAt (w.heap.size + 1 + 1 + 1 + 1) w1 b off cap (nats s.L)) := hO1.grown hg1 (by simp; omega)
      have HM : Hid (MapH w1 (w.heap.size + 1 + 1 + 1) (s.m.set t (some next))) := hM1
      have Hg : Hid (wr.grownBy w1 (some (w.heap.size + 1 + 1 + 1))) := hg1
      have d0 := (HW.out.2 0 (by simp)).1
      simp only [List.getElem_cons_zero] at d0
      have z2 := HW.out.1
      have hsz : w.heap.size + 1 + 1 + 1 + 1 ≤ w1.heap.size := by omega
      have hlL : s.L.length ≤ 1048576 := by
        have := Ho.out.rise
        have hb := fun j (hj : j ∈ s.L) => (Ho.out.has j hj).1
        exact Nat.le_trans (rise_length s.L n this hb) hn
      clear hM1 hg1 hw1 hO1 hm
      go_enter Tryz.func94, Tryz.ntmps94
      go_wp2_with fail
      refine (implRise b off cap s.L t _ HO.out Ho.out.rise hlL hsz).mono ?_
      rintro e w2 ⟨b', off', cap', rfl, ho2, hg2, hw2⟩
      have HW2 : Hid (VRow w2 (w.heap.size + 1 + 1 + 1 + 1 + 1) [.slice (some ⟨b, off, none⟩) s.L.length cap]) := HW.out.grown hg2 (by simp; omega)
      have e0 := (HW2.out.2 0 (by simp)).1
      have e1 := (HW2.out.2 0 (by simp)).2
      have z3 := HW2.out.1
      simp only [List.getElem_cons_zero] at e0
      have hb' : b' ≠ w.heap.size + 1 + 1 + 1 + 1 + 1 := by omega
      have hbG' : b' ≠ G := by omega
      have HF : Hid (ImS w (w2.setCell ⟨w.heap.size + 1 + 1 + 1 + 1 + 1, 0, none⟩ (.slice (some ⟨b', off', none⟩) (s.L.length + 1) cap')) G prg (.slice Ac n capc) ⟨s.m.set t (some next), putIn t s.L⟩) := by
        have hl2 := putIn_length t s.L
        refine ⟨((Hh.out.box.grown Hg.out (by simp; omega)).grown hg2 (by simp; omega)).set_far _ _ (by show w.heap.size + 1 + 1 + 1 + 1 + 1 ≠ w.heap.size; omega),
          ((Hh.out.hb.grown Hg.out (by simp)).grown hg2 (by simp; omega)).set_far _ _ (by show w.heap.size + 1 + 1 + 1 + 1 + 1 ≠ w.heap.size + 1; omega),
          ((Hh.out.ib.grown Hg.out (by simp)).grown hg2 (by simp; omega)).set_far _ _ (by show w.heap.size + 1 + 1 + 1 + 1 + 1 ≠ w.heap.size + 1 + 1; omega),
          (HM.out.kept hg2 (by simp; omega)).setFar _ _ (by show w.heap.size + 1 + 1 + 1 ≠ w.heap.size + 1 + 1 + 1 + 1 + 1; omega),
          ⟨b', off', cap', ?_, ho2.setFar _ _ (by exact hb'), hb', hbG'⟩, ?_⟩
        · have := HW2.out.set_at 0 (.slice (some ⟨b', off', none⟩) (s.L.length + 1) cap') (by simp)
          rw [hl2]
          exact this
        · exact ((Hh.out.bel.grown Hg.out (by omega) (fun k hk => by cases hk; omega)).grown hg2 (by have := Hg.out.size; omega) (fun k hk => by cases hk; omega)).setCell (by show w.heap.size ≤ w.heap.size + 1 + 1 + 1 + 1 + 1; omega) _
      have HG : Hid ((w2.setCell ⟨w.heap.size + 1 + 1 + 1 + 1 + 1, 0, none⟩ (.slice (some ⟨b', off', none⟩) (s.L.length + 1) cap')).heap[G]? = wr.heap[G]? ∧ wr.heap.size ≤ (w2.setCell ⟨w.heap.size + 1 + 1 + 1 + 1 + 1, 0, none⟩ (.slice (some ⟨b', off', none⟩) (s.L.length + 1) cap')).heap.size) :=
        ⟨(Below.heap_setCell w2 _ _ G (by exact hG5)).trans ((hg2.block G (by omega) (by simp; omega)).trans (Hg.out.block G hG (by simp; omega))), by have := hg2.size; simp; omega⟩
      clear ho2 hg2 hw2 HW2 HW HO HM Hg d0
      go_wp2_with fail
      go_ret
      exact ⟨rfl, HF.out, HG.out⟩
end Go.Proofs.YtijgonjnmibifaaGreatDoor
