/- A text of which one byte is another one has another sum; the law that says so. -/
import Derived.Test.YtnnhoobjnnjnhaaSum
import Derived.Test.YtnnhoobjnnjnhaaSrc3
import Derived.Test.YtnnhoobjnnjnhaaBytes8
import Derived.Deep.RegionWith
namespace Go.Proofs.Ytnnhoobjnnjnhaa
open Go.RowKit

theorem fold_inj (l : List UInt8) (x y : Int) (hx : 0 ≤ x ∧ x < 4294967291) (hy : 0 ≤ y ∧ y < 4294967291)
    (h : l.foldl (fun n c => (257 * n + (c.toNat : Int)) % 4294967291) x = l.foldl (fun n c => (257 * n + (c.toNat : Int)) % 4294967291) y) : x = y := by
  induction l generalizing x y with
  | nil => exact h
  | cons c l ih =>
    have h1 := ih ((257 * x + (c.toNat : Int)) % 4294967291) ((257 * y + (c.toNat : Int)) % 4294967291) (by omega) (by omega) h
    omega

theorem sumB_append (a b : List UInt8) : sumB (a ++ b) = b.foldl (fun n c => (257 * n + (c.toNat : Int)) % 4294967291) (sumB a) := by
  simp [sumB, List.foldl_append]

theorem sumB_other (a b : List UInt8) (c d : UInt8) (h : c ≠ d) : sumB (a ++ c :: b) ≠ sumB (a ++ d :: b) := by
  intro e
  rw [sumB_append, sumB_append] at e
  simp only [List.foldl_cons] at e
  have hb := sumB_bd a
  have h1 := fold_inj b _ _ (by omega) (by omega) e
  have hc := c.toNat_lt
  have hd := d.toNat_lt
  apply h
  apply UInt8.toNat_inj.1
  omega

theorem sumB_set (l : List UInt8) (k : Nat) (hk : k < l.length) (c : UInt8) (h : c ≠ l[k]) : sumB (l.set k c) ≠ sumB l := by
  have e : l = l.take k ++ l[k] :: l.drop (k + 1) := by rw [List.getElem_cons_drop, List.take_append_drop]
  have e2 : l.set k c = l.take k ++ c :: l.drop (k + 1) := List.set_eq_take_append_cons_drop.trans (if_pos hk)
  intro h2
  refine sumB_other (l.take k) (l.drop (k + 1)) c l[k] h ?_
  rw [← e2, h2]
  exact congrArg sumB e

theorem sumS_small (l : List UInt8) (h : l.length < 60) : sumS ⟨l.toArray⟩ = sumB l := by
  unfold sumS
  rw [if_pos (by simp [ByteArray.size]; omega)]

/-- one byte set, as a text -/
theorem set_text {w : World} {g cap k : Nat} {l : List UInt8} {X : Int} (h5 : ∀ j (h : j < l.length), w.cell? ⟨g, j, none⟩ = some (.int .u8 (l[j].toNat : Int))) (hk : k < l.length) (h0 : 0 ≤ X) (h1 : X < 256) :
    (convert 22 9 (.slice (some ⟨g, 0, none⟩) l.length cap)).run Try.prog ((w.setCell ⟨g, k, none⟩ (.int .u8 X)).drew) = .ok (.string ⟨(l.set k X.toNat.toUInt8).toArray⟩) ((w.setCell ⟨g, k, none⟩ (.int .u8 X)).drew) := by
  have hl : (l.set k X.toNat.toUInt8).length = l.length := by simp
  have h := run_convert_bytes_back (P := Try.prog) ((w.setCell ⟨g, k, none⟩ (.int .u8 X)).drew) 22 9 5 ⟨g, 0, none⟩ cap (l.set k X.toNat.toUInt8) Try.underlying22 Try.underlying5 Try.underlying9 (by
    intro j hj
    have ha : (⟨g, 0, none⟩ : Addr).add j = ⟨g, j, none⟩ := by simp [Addr.add]; exact fun h => h.symm
    rw [ha]
    by_cases hjk : k = j
    · subst hjk
      have e : ((X.toNat.toUInt8).toNat : Int) = X := by rw [Lib.toUInt8_toNat (by omega)]; omega
      rw [List.getElem_set_self, e]
      exact World.cell?_setCell_same _ _ _ (h5 k hk)
    · rw [List.getElem_set_ne hjk]
      exact (World.cell?_setCell_other _ _ _ _ (by simp)).trans (h5 j (by omega)))
  rw [hl] at h
  exact h

theorem X_eq (c : Nat) (q : Int) : IntKind.u8.wrap ((c : Int) + IntKind.u8.wrap (IntKind.i64.wrap (1 + q))) = ((c : Int) + 1 + q) % 256 := by
  rw [IntKind.wrap_u8', IntKind.wrap_u8', IntKind.wrap_i64]
  omega

set_option maxRecDepth 100000 in
set_option maxHeartbeats 1600000 in
theorem lawFnSum (v1 v2 : Value) (z1 z2 : List Int) (w : World) (h1 : Row8 w.heap.size w v1 z1) (h2 : Row8 w.heap.size w v2 z2) (hl1 : (z1.length : Int) ≤ 9223372036854775807) (hl2 : (z2.length : Int) ≤ 9223372036854775807) :
    Calls Try.prog 4 #[v1, v2] w fun e w' => e = .returned (.bool true) ∧ Below w.heap.size w w' := by
  have H1 : Hid (Row8 w.heap.size w v1 z1) := h1
  have H2 : Hid (Row8 w.heap.size w v2 z2) := h2
  obtain ⟨a1, c1, rfl⟩ := h1.len
  obtain ⟨a2, c2, rfl⟩ := h2.len
  clear h1 h2
  by_cases hb1 : (1048576 : Int) < (z1.length : Int)
  · go_enter Try.func4, Try.ntmps4
    go_wp2
    go_ret
    exact ⟨rfl, Below.refl _ _⟩
  · have hd1 : decide ((1048576 : Int) < (z1.length : Int)) = false := by simpa using hb1
    by_cases hb2 : (1048576 : Int) < (z2.length : Int)
    · go_enter Try.func4, Try.ntmps4
      go_wp2
      go_ret
      exact ⟨rfl, Below.refl _ _⟩
    · have hd2 : decide ((1048576 : Int) < (z2.length : Int)) = false := by simpa using hb2
      go_enter Try.func4, Try.ntmps4
      go_wp2_with fail
      refine (drawSum _ z1 _ H1.out (by omega)).mono ?_
      rintro e w1 ⟨l, rfl, hl, hbe1⟩
      have hsz : (⟨l.toArray⟩ : ByteArray).size ≤ maxLen := by unfold maxLen; simp [ByteArray.size]; omega
      have C1 : Hid (∀ w, _) := fun w => implSum ⟨l.toArray⟩ w hsz
      have C2 : Hid (∀ w, _) := fun w => specSum ⟨l.toArray⟩ w hsz
      rw [sumS_small l hl] at C1 C2
      clear hsz
      go_wp2_with fail
      refine (C1.out _).mono ?_
      rintro e w2 ⟨rfl, hw2⟩
      subst w2
      go_wp2_with fail
      refine (C2.out _).mono ?_
      rintro e w2 ⟨rfl, hw2⟩
      subst w2
      by_cases hz : l = []
      · subst hz
        go_wp2_with fail
        go_ret
        exact ⟨rfl, hbe1⟩
      · have hzb : l.isEmpty = false := by simpa using hz
        obtain ⟨v3, w3, hcv, hown, hbe3⟩ := bytes8_of_string w1 ⟨l.toArray⟩ (by simp [ByteArray.size]; omega)
        have Hown : Hid (Bytes8 w3 w1.heap.size v3 l) := hown
        obtain ⟨g, cap, rfl, hg1, hg2, hg3, hg4, hg5, hg6⟩ := hown
        have Hg5 : Hid (∀ j (h : j < l.length), w3.cell? ⟨g, j, none⟩ = some (.int .u8 (l[j].toNat : Int))) := hg5
        have Hg6 : Hid (∀ j, j < cap → (w3.cell? ⟨g, j, none⟩).isSome = true ∧ w3.frozen? ⟨g, j, none⟩ = false) := hg6
        have Hbe : Hid (Below w.heap.size w w3) := hbe1.trans (hbe3.mono hbe1.size)
        have HR : Hid (Row8 w.heap.size w3 (.slice a2 z2.length c2) z2) := H2.out.below Hbe.out
        have Hwg : Hid (w.heap.size ≤ g) := Nat.le_trans hbe1.size hg1
        clear hg5 hg6 hbe1 hbe3 H1 H2
        go_wp2_with fail
        refine (lwAt9 w.heap.size _ z2 0 _ _ HR.out Hbe.out.size (by omega) (by omega) (by omega) (by omega)).mono ?_
        rintro e w4 ⟨hw4, r, rfl, hr0, hr1⟩
        subst w4
        obtain ⟨k, rfl⟩ := Int.eq_ofNat_of_zero_le hr0
        have hlp : 0 < l.length := List.length_pos_iff.2 hz
        have hk : k < l.length := by omega
        have hck := Hg5.out k hk
        have hfk := (Hg6.out k (by omega)).2
        have hb256 : (l[k].toNat : Int) < 256 := by have := l[k].toNat_lt; omega
        clear hr1 hcv
        go_wp2_with fail
        go_region_with (go_at_call 18; refine (lwAt9 w.heap.size _ z2 1 255 _ (show Row8 w.heap.size w3.drew _ _ from HR.out) (show w.heap.size ≤ w3.drew.heap.size from Hbe.out.size) (by omega) (by omega) (by omega) (by omega)).mono ?_; rintro e w5 ⟨hw5, q, rfl, hq0, hq1⟩; subst w5; have hq2 : q < 255 := by omega)
        all_goals
          have hX := X_eq l[k].toNat q
          rw [hX]
          have hX0 : 0 ≤ ((l[k].toNat : Int) + 1 + q) % 256 := by omega
          have hX1 : ((l[k].toNat : Int) + 1 + q) % 256 < 256 := by omega
          have hXn : ((((l[k].toNat : Int) + 1 + q) % 256).toNat.toUInt8) ≠ l[k] := by
            intro e
            have e2 := congrArg UInt8.toNat e
            rw [Lib.toUInt8_toNat (by omega)] at e2
            omega
          generalize ((l[k].toNat : Int) + 1 + q) % 256 = X at hX hX0 hX1 hXn
          have hcv2 := set_text (cap := cap) Hg5.out hk hX0 hX1
          have hneq := sumB_set l k hk _ hXn
          have hll : (l.set k X.toNat.toUInt8).length < 60 := by simp; omega
          have C3 : Hid (∀ w, _) := fun w => implSum ⟨(l.set k X.toNat.toUInt8).toArray⟩ w (by unfold maxLen; simp [ByteArray.size]; omega)
          rw [sumS_small _ hll] at C3
          have hB : (sumB (l.set k X.toNat.toUInt8) != sumB l) = true := by rw [bne_iff_ne]; exact hneq
          generalize l.set k X.toNat.toUInt8 = l2 at hcv2 C3 hB
          clear hX hXn hneq hll hck hfk
          go_wp2_with fail
          refine (C3.out _).mono ?_
          rintro e w6 ⟨rfl, hw6⟩
          subst w6
          go_wp2_with fail
          go_ret
          exact ⟨rfl, (Hbe.out.setCell Hwg.out _).drew⟩

end Go.Proofs.Ytnnhoobjnnjnhaa
