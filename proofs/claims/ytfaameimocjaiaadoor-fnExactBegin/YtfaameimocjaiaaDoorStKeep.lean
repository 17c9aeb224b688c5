/- A state of the call's own, kept where no cell of its blocks changes; laws.toInt64S, its answer's memory. -/
import Derived.Test.YtfaameimocjaiaaDoorStMarkS
import Derived.Test.YtfaameimocjaiaaDoorStTo
namespace Go.Proofs.YtfaameimocjaiaaDoor
open Go.RowKit

/-- no cell from block B on changes -/
def Kept (B : Nat) (w w' : World) : Prop := w.heap.size ≤ w'.heap.size ∧ ∀ b j, B ≤ b → b < w.heap.size → w'.cell? ⟨b, j, none⟩ = w.cell? ⟨b, j, none⟩ ∧ w'.frozen? ⟨b, j, none⟩ = w.frozen? ⟨b, j, none⟩

theorem Kept.of_blocks {B : Nat} {w w' : World} (hs : w.heap.size ≤ w'.heap.size) (h : ∀ b, B ≤ b → b < w.heap.size → w'.heap[b]? = w.heap[b]?) : Kept B w w' :=
  ⟨hs, fun b _ h1 h2 => ⟨World.cell?_of_block (w := w) (h b h1 h2), World.frozen?_of_block (w := w) (h b h1 h2)⟩⟩

theorem Room.kept {own : Nat → Nat → Tag} {B size : Nat} {w w' : World} {v : Value} {t : Tag} (h : Room own B w v size t) (hk : Kept B w w') : Room own B w' v size t := by
  obtain ⟨A, n, cap, rfl, hn, hr⟩ := h
  refine ⟨A, n, cap, rfl, hn, fun j hj => ?_⟩
  obtain ⟨b, off, h1, h2, h3, h4, h5, h6⟩ := hr j hj
  exact ⟨b, off, h1, h2, Nat.lt_of_lt_of_le h3 hk.1, by rw [(hk.2 b _ h2 h3).1]; exact h4, by rw [(hk.2 b _ h2 h3).2]; exact h5, h6⟩

theorem IRow.keptK {B : Nat} {w w' : World} {v : Value} {zs : List Int} (h : IRow B w v zs) (hk : Kept B w w') : IRow B w' v zs := h.kept hk.1 fun b j h1 h2 => (hk.2 b j h1 h2).1

theorem OwnSt.kept {own : Nat → Nat → Tag} {B : Nat} {w w' : World} {x y z : Value} {s : StM} {X Y Z : Nat → Value} (h : OwnSt own B w x y z s X Y Z) (hk : Kept B w w') : OwnSt own B w' x y z s X Y Z := by
  refine ⟨⟨h.fr.len, h.fr.form, h.fr.room.kept hk, fun i hi => ?_, fun i hi => ⟨(h.fr.loc i hi).1.keptK hk, (h.fr.loc i hi).2.kept hk⟩, fun i hi => ⟨(h.fr.stk i hi).1.keptK hk, (h.fr.stk i hi).2.kept hk⟩⟩,
    ⟨h.hp.len, h.hp.form, h.hp.room.kept hk, fun i hi => ?_, fun i hi => ⟨(h.hp.arr i hi).1.keptK hk, (h.hp.arr i hi).2.kept hk⟩⟩, h.row.keptK hk, h.room.kept hk⟩
  · obtain ⟨b, off, cap, e, h1, h2, h3, h4, h5, h6, _⟩ := h.fr.at i hi
    exact ⟨b, off, cap, e, by rw [(hk.2 b _ h1 h2).1]; exact h3, by rw [(hk.2 b _ h1 h2).1]; exact h4, by rw [(hk.2 b _ h1 h2).1]; exact h5, by rw [(hk.2 b _ h1 h2).1]; exact h6⟩
  · obtain ⟨b, off, cap, e, h1, h2, h3, _⟩ := h.hp.at i hi
    exact ⟨b, off, cap, e, by rw [(hk.2 b _ h1 h2).1]; exact h3⟩

theorem StBox.kept {B : Nat} {w w' : World} {b : Nat} {x y z : Value} {s : StM} (h : StBox w b x y z s) (hk : Kept B w w') (hB : B ≤ b) : StBox w' b x y z s :=
  ⟨Nat.lt_of_lt_of_le h.1 hk.1, fun j => by rw [(hk.2 b j hB h.1).1]; exact h.2 j⟩

/-- all cells of one block are of one list -/
def oneOwn (g : Nat) (t : Tag) : Nat → Nat → Tag := fun b _ => if b = g then t else .no

set_option maxRecDepth 100000 in
set_option maxHeartbeats 800000 in
theorem toIntsO {B : Nat} (v : Value) (c : List Int) (w : World) (hr : IRow B w v c) (hn : c.length ≤ 1048576) :
    Calls Tryd.prog 12 #[v] w fun e w' => e = .returned (.slice (some ⟨w.heap.size, 0, none⟩) c.length c.length) ∧ IRow w.heap.size w' (.slice (some ⟨w.heap.size, 0, none⟩) c.length c.length) c ∧ Room (oneOwn w.heap.size .out) w.heap.size w' (.slice (some ⟨w.heap.size, 0, none⟩) c.length c.length) 1 .out ∧ Below w.heap.size w w' ∧ w.heap.size < w'.heap.size := by
  obtain ⟨i0, hi, hz0, hz1, hz2⟩ := info_parts Tryd.info64
  have hmk := fun (W : World) => run_makeSlice (P := Tryd.prog) W 33 2 i0 _ Tryd.underlying33 hi hz0 .i64 .i64 c.length c.length (by omega) (by omega) (by rw [hz1]; simp; omega) (by rw [hz2]; omega) (by omega)
  simp only [hz1, Int.toNat_natCast, Nat.mul_one] at hmk
  have Hr : Hid (IRow B w v c) := hr
  obtain ⟨A, cap, rfl, _, hc⟩ := hr
  clear hc
  go_enter Tryd.func12, Tryd.ntmps12
  go_wp2
  clear hmk
  go_loopw [4] (fun i wr => ∃ k : Nat, k ≤ c.length ∧ i = .int .i64 k ∧ Slots wr w.heap.size c.length ∧ Below w.heap.size w wr ∧ ∀ j (h : j < c.length), j < k → wr.cell? ⟨w.heap.size, j, none⟩ = some (.int .i64 c[j]))
    (fun i _ => c.length - (intOf i).toNat)
  case atStart =>
    refine ⟨0, Nat.zero_le _, rfl, ?_, (Below.refl _ _).alloc (Nat.le_refl _) _, fun j _ h => by omega⟩
    have := slots_new w (madeCells #[Value.int .i64 0] c.length) 2
    rwa [size_madeCells] at this
  case round =>
    obtain ⟨k, hk, rfl, hs, hb, hcs⟩ := hrel
    by_cases hkl : k < c.length
    · obtain ⟨b, off, rfl, _, hlt, c0⟩ := (Hr.out.below hb).at k hkl
      have Hb : Hid (Below w.heap.size w wr) := hb
      have Hs : Hid (Slots wr w.heap.size c.length) := hs
      have Hcs : Hid (∀ j (h : j < c.length), j < k → wr.cell? ⟨w.heap.size, j, none⟩ = some (.int .i64 c[j])) := hcs
      have hw0 : w.heap.size < wr.heap.size := hs.1
      obtain ⟨⟨z0, hz0⟩, f0⟩ := hs.2 k hkl
      clear hb hs hcs
      go_wp2_with fail
      go_roundw
      case rel =>
        refine ⟨k + 1, by omega, by go_num, Hs.out.set _ _, Hb.out.setCell (by simp) _, ?_⟩
        intro j hj hjk
        by_cases he : j = k
        · subst he
          exact cell_set_at Hs.out hj _
        · rw [cell_set_far _ _ _ _ _ (by omega)]; exact Hcs.out j hj (by omega)
      case measure => simp [intOf]; omega
    · go_wp2
      go_ret
      refine ⟨rfl, ⟨_, _, rfl, by omega, fun i hi => ⟨w.heap.size, 0, rfl, Nat.le_refl _, hs.1, ?_⟩⟩, ⟨_, _, _, rfl, Nat.le_refl _, fun j hj => ⟨w.heap.size, 0, rfl, Nat.le_refl _, hs.1, ?_, ?_, by simp [oneOwn]⟩⟩, hb, hs.1⟩
      · simpa using hcs i hi (by omega)
      · obtain ⟨z, hz⟩ := (hs.2 j (by omega)).1
        rw [Nat.zero_add, hz]; rfl
      · rw [Nat.zero_add]; exact (hs.2 j (by omega)).2
end Go.Proofs.YtfaameimocjaiaaDoor
