/- A state of the call's own, kept where no cell of its blocks changes; laws.toInt64S, its answer's memory. markState, which thaws and freezes nothing. laws.szProgram and what it calls. laws.szState and what it calls. -/
import Derived.Test.YtnknnncehcofnaaGreatDoorStMarkS
import Derived.Test.YtnknnncehcofnaaGreatDoorJ16LayW
import Derived.Test.YtnknnncehcofnaaGreatDoorJ0Prg
namespace Go.Proofs.YtnknnncehcofnaaGreatDoor
open Go.RowKit

/-- no cell from block B on changes -/
def Kept (B : Nat) (w w' : World) : Prop := w.heap.size ≤ w'.heap.size ∧ ∀ b j, B ≤ b → b < w.heap.size → w'.cell? ⟨b, j, none⟩ = w.cell? ⟨b, j, none⟩ ∧ w'.frozen? ⟨b, j, none⟩ = w.frozen? ⟨b, j, none⟩

theorem Kept.of_blocks {B : Nat} {w w' : World} (hs : w.heap.size ≤ w'.heap.size) (h : ∀ b, B ≤ b → b < w.heap.size → w'.heap[b]? = w.heap[b]?) : Kept B w w' :=
  ⟨hs, fun b _ h1 h2 => ⟨World.cell?_of_block (w := w) (h b h1 h2), World.frozen?_of_block (w := w) (h b h1 h2)⟩⟩

theorem Room.kept {own : Nat → Nat → Tag} {B size : Nat} {w w' : World} {v : Value} {t : Tag} (h : Room own B w v size t) (hk : Kept B w w') : Room own B w' v size t := by
  obtain ⟨A, n, cap, rfl, hn, hr⟩ := h
  refine ⟨A, n, cap, rfl, hn, fun j hj => ?_⟩
  obtain ⟨b, off, h1, h2, h3, h4, h5, h6⟩ := hr j hj
  exact ⟨b, off, h1, h2, Nat.lt_of_lt_of_le h3 hk.1, by rw [(hk.2 b _ h2 h3).1]; exact h4, by rw [(hk.2 b _ h2 h3).2]; exact h5, h6⟩

theorem IRow.keptK {B : Nat} {w w' : World} {v : Value} {zs : List Int} (h : IRow B w v zs) (hk : Kept B w w') : IRow B w' v zs := h.kept hk.1 fun b j h1 h2 => (hk.2 b j h1 h2).1

theorem OwnSt.kept {own : Nat → Nat → Tag} {B : Nat} {w w' : World} {x y z : Value} {s : StM} {X Y Z : Nat → Value} (h : OwnSt own B w x y z s X Y Z) (hk : Kept B w w') : OwnSt own B w' x y z s X Y Z := by
  refine ⟨⟨h.fr.len, h.fr.form, h.fr.room.kept hk, fun i hi => ?_, fun i hi => ⟨(h.fr.loc i hi).1.keptK hk, (h.fr.loc i hi).2.kept hk⟩, fun i hi => ⟨(h.fr.stk i hi).1.keptK hk, (h.fr.stk i hi).2.kept hk⟩⟩,
    ⟨h.hp.len, h.hp.form, h.hp.room.kept hk, fun i hi => ?_, fun i hi => ⟨(h.hp.arr i hi).1.keptK hk, (h.hp.arr i hi).2.kept hk⟩⟩, h.row.keptK hk, h.room.kept hk⟩
  · obtain ⟨b, off, cap, e, h1, h2, h3, h4, h5, h6, _⟩ := h.fr.at i hi
    exact ⟨b, off, cap, e, by rw [(hk.2 b _ h1 h2).1]; exact h3, by rw [(hk.2 b _ h1 h2).1]; exact h4, by rw [(hk.2 b _ h1 h2).1]; exact h5, by rw [(hk.2 b _ h1 h2).1]; exact h6⟩
  · obtain ⟨b, off, cap, e, h1, h2, h3, _⟩ := h.hp.at i hi
    exact ⟨b, off, cap, e, by rw [(hk.2 b _ h1 h2).1]; exact h3⟩

theorem StBox.kept {B : Nat} {w w' : World} {b : Nat} {x y z : Value} {s : StM} (h : StBox w b x y z s) (hk : Kept B w w') (hB : B ≤ b) : StBox w' b x y z s :=
  ⟨Nat.lt_of_lt_of_le h.1 hk.1, fun j => by rw [(hk.2 b j hB h.1).1]; exact h.2 j⟩

/-- all cells of one block are of one list -/
def oneOwn (g : Nat) (t : Tag) : Nat → Nat → Tag := fun b _ => if b = g then t else .no

set_option maxRecDepth 100000 in
set_option maxHeartbeats 800000 in
theorem toIntsO {B : Nat} (v : Value) (c : List Int) (w : World) (hr : IRow B w v c) (hn : c.length ≤ 1048576) :
    Calls Tryz.prog 60 #[v] w fun e w' => e = .returned (.slice (some ⟨w.heap.size, 0, none⟩) c.length c.length) ∧ IRow w.heap.size w' (.slice (some ⟨w.heap.size, 0, none⟩) c.length c.length) c ∧ Room (oneOwn w.heap.size .out) w.heap.size w' (.slice (some ⟨w.heap.size, 0, none⟩) c.length c.length) 1 .out ∧ Below w.heap.size w w' ∧ w.heap.size < w'.heap.size := by
  obtain ⟨i0, hi, hz0, hz1, hz2⟩ := info_parts Tryz.info64
  have hmk := fun (W : World) => run_makeSlice (P := Tryz.prog) W 28 2 i0 _ Tryz.underlying28 hi hz0 .i64 .i64 c.length c.length (by omega) (by omega) (by rw [hz1]; simp; omega) (by rw [hz2]; omega) (by omega)
  simp only [hz1, Int.toNat_natCast, Nat.mul_one] at hmk
  have Hr : Hid (IRow B w v c) := hr
  obtain ⟨A, cap, rfl, _, hc⟩ := hr
  clear hc
  go_enter Tryz.func60, Tryz.ntmps60
  go_wp2
  clear hmk
  go_loopw [4] (fun i wr => ∃ k : Nat, k ≤ c.length ∧ i = .int .i64 k ∧ Slots wr w.heap.size c.length ∧ Below w.heap.size w wr ∧ ∀ j (h : j < c.length), j < k → wr.cell? ⟨w.heap.size, j, none⟩ = some (.int .i64 c[j]))
    (fun i _ => c.length - (intOf i).toNat)
  case atStart =>
    refine ⟨0, Nat.zero_le _, rfl, ?_, (Below.refl _ _).alloc (Nat.le_refl _) _, fun j _ h => by omega⟩
    have := slots_new w (madeCells #[Value.int .i64 0] c.length) 2
    rwa [size_madeCells] at this
  case round =>
    obtain ⟨k, hk, rfl, hs, hb, hcs⟩ := hrel
    by_cases hkl : k < c.length
    · obtain ⟨b, off, rfl, _, hlt, c0⟩ := (Hr.out.below hb).at k hkl
      have Hb : Hid (Below w.heap.size w wr) := hb
      have Hs : Hid (Slots wr w.heap.size c.length) := hs
      have Hcs : Hid (∀ j (h : j < c.length), j < k → wr.cell? ⟨w.heap.size, j, none⟩ = some (.int .i64 c[j])) := hcs
      have hw0 : w.heap.size < wr.heap.size := hs.1
      obtain ⟨⟨z0, hz0⟩, f0⟩ := hs.2 k hkl
      clear hb hs hcs
      go_wp2_with fail
      go_roundw
      case rel =>
        refine ⟨k + 1, by omega, by go_num, Hs.out.set _ _, Hb.out.setCell (by simp) _, ?_⟩
        intro j hj hjk
        by_cases he : j = k
        · subst he
          exact cell_set_at Hs.out hj _
        · rw [cell_set_far _ _ _ _ _ (by omega)]; exact Hcs.out j hj (by omega)
      case measure => simp [intOf]; omega
    · go_wp2
      go_ret
      refine ⟨rfl, ⟨_, _, rfl, by omega, fun i hi => ⟨w.heap.size, 0, rfl, Nat.le_refl _, hs.1, ?_⟩⟩, ⟨_, _, _, rfl, Nat.le_refl _, fun j hj => ⟨w.heap.size, 0, rfl, Nat.le_refl _, hs.1, ?_, ?_, by simp [oneOwn]⟩⟩, hb, hs.1⟩
      · simpa using hcs i hi (by omega)
      · obtain ⟨z, hz⟩ := (hs.2 j (by omega)).1
        rw [Nat.zero_add, hz]; rfl
      · rw [Nat.zero_add]; exact (hs.2 j (by omega)).2
end Go.Proofs.YtnknnncehcofnaaGreatDoor

namespace Go.Proofs.YtnknnncehcofnaaGreatDoor
open Go.RowKit

/-- what belongs to none of its lists stays -/
structure SparedT (own : Nat → Nat → Tag) (B : Nat) (w w' : World) : Prop where
  below : Below B w w'
  cell : ∀ b j, b < w.heap.size → own b j = .no → w'.cell? ⟨b, j, none⟩ = w.cell? ⟨b, j, none⟩
  thaw : ∀ b j, b < w.heap.size → w'.frozen? ⟨b, j, none⟩ = w.frozen? ⟨b, j, none⟩

theorem SparedT.wrote {own : Nat → Nat → Tag} {B : Nat} {a b c : World} {S : Nat → Nat → Prop} (h : SparedT own B a b) (hw : Wrote B S b c) (hS : ∀ i j, S i j → own i j ≠ .no) : SparedT own B a c :=
  ⟨h.below.trans hw.below, fun i j hi ho => (hw.cell i j (fun hs => hS i j hs ho)).trans (h.cell i j hi ho), fun i j hi => (hw.thaw i j).trans (h.thaw i j hi)⟩

theorem SparedT.box {own : Nat → Nat → Tag} {B U : Nat} {w w' : World} {b : Nat} {C : Array Value} (h : SparedT (cutOwn U own) B w w') (hb : U ≤ b) (hB : Box w b C) : Box w' b C :=
  ⟨Nat.lt_of_lt_of_le hB.1 h.below.size, fun j => by rw [h.cell b j hB.1 (by unfold cutOwn; rw [if_neg (by omega)])]; exact hB.2 j⟩

set_option maxRecDepth 100000 in
set_option maxHeartbeats 1600000 in
theorem markStateT {own : Nat → Nat → Tag} {B : Nat} (x y z : Value) (s : StM) (X Y Z : Nat → Value) (k : Nat) (w : World) (hs : OwnSt own B w x y z s X Y Z) (hB : B ≤ w.heap.size) (hno : ∀ b j, w.heap.size ≤ b → own b j = .no) (hk : k + cntS s ≤ 100000000) (hsm : Small s) :
    Calls Tryz.prog 22 #[stV x y z s, .int .i64 k] w fun e w' => e = .returned (.int .i64 (k + cntS s : Nat)) ∧ OwnSt own B w' x y z (markS s k) X Y Z ∧ SparedT own B w w' := by
  have HS : Hid (OwnSt own B w x y z s X Y Z) := hs
  have Hsm : Hid (Small s) := hsm
  have Hno : Hid (∀ b j, w.heap.size ≤ b → own b j = .no) := hno
  obtain ⟨A1, a1, rfl⟩ := hs.fr.form
  obtain ⟨A2, a2, rfl⟩ := hs.hp.form
  obtain ⟨A3, a3, rfl⟩ := hs.row.form
  clear hs hsm hno
  unfold stV
  unfold cntS at hk
  obtain ⟨wa, hwa⟩ : ∃ wa, wa = w.alloc (.cells #[.slice A1 s.frames.length a1, .slice A2 s.heap.length a2, .slice A3 s.out.length a3, .int .i64 s.fuel, .bool s.done, .int .i64 s.value, .int .i64 s.trap] 45) := ⟨_, rfl⟩
  have hal : Below w.heap.size w wa := by rw [hwa]; exact (Below.refl _ _).alloc (Nat.le_refl _) _
  have X0 : Hid (StBox wa w.heap.size (.slice A1 s.frames.length a1) (.slice A2 s.heap.length a2) (.slice A3 s.out.length a3) s) := by rw [hwa]; exact stBox_new w _ _ _ s 45
  have HSa : Hid (OwnSt own B wa (.slice A1 s.frames.length a1) (.slice A2 s.heap.length a2) (.slice A3 s.out.length a3) s X Y Z) := HS.out.below hal
  have Sa : Hid (SparedT own B w wa) := ⟨hal.mono hB, fun b j hb _ => hal.cell (by exact hb), fun b j hb => hal.frozen (by exact hb)⟩
  have HN : Hid (∀ W (S : Nat → Nat → Prop), Wrote B S wa W → (∀ i j, S i j → own i j ≠ .no) → StBox W w.heap.size (.slice A1 s.frames.length a1) (.slice A2 s.heap.length a2) (.slice A3 s.out.length a3) s) := fun W S hW hS => ⟨by rw [hW.size]; exact X0.out.1, fun j => by rw [hW.cell _ _ (fun h => hS _ _ h (Hno.out _ _ (Nat.le_refl _)))]; exact X0.out.2 j⟩
  clear hal
  go_enter Tryz.func22, Tryz.ntmps22
  go_wp2_with fail
  rw [← hwa]
  clear hwa
  refine (markFrames _ s.frames X Y k wa HSa.out.fr (by omega) Hsm.out.1).mono ?_
  rintro e w1 ⟨rfl, h1, hw1⟩
  have hfn : ∀ i j, FrTag (own i j) → own i j ≠ .no := fun i j h => frTag_no h
  have HW1 : Hid (Wrote B (fun b j => own b j ≠ .no) wa w1) := hw1.mono hfn
  have H1 : Hid (OwnFr own B w1 (.slice A1 s.frames.length a1) (markF s.frames k) X Y) := h1
  have H2 : Hid (OwnAr own B w1 (.slice A2 s.heap.length a2) s.heap Z) := HSa.out.hp.wrote hw1 (fun b j h => ⟨frTag_hp h, fun i => frTag_arr h i⟩)
  have H3 : Hid (IRow B w1 (.slice A3 s.out.length a3) s.out ∧ Room own B w1 (.slice A3 s.out.length a3) 1 .out) := ⟨HSa.out.row.wrote HSa.out.room hw1 (fun b j h => frTag_out h), HSa.out.room.wrote hw1⟩
  obtain ⟨z0, -, c1, -⟩ := (HN.out w1 _ HW1.out (fun _ _ h => h)).cells
  obtain ⟨k1, hk1⟩ : ∃ k1, k1 = k + cntF s.frames := ⟨_, rfl⟩
  have Hk1 : Hid (k1 = k + cntF s.frames) := hk1
  rw [← hk1]
  clear h1 hw1 hfn
  have hk1' : k1 + cntH s.heap ≤ 100000000 := by omega
  clear hk1
  go_wp2_with fail
  refine (markArrs _ s.heap Z k1 w1 H2.out hk1' Hsm.out.2.1).mono ?_
  rintro e w2 ⟨rfl, h2, hw2⟩
  have han : ∀ i j, ArTag (own i j) → own i j ≠ .no := fun i j h => arTag_no h
  have HW2 : Hid (Wrote B (fun b j => own b j ≠ .no) wa w2) := HW1.out.trans (hw2.mono han)
  have J1 : Hid (OwnFr own B w2 (.slice A1 s.frames.length a1) (markF s.frames k) X Y) := H1.out.wrote hw2 (fun b j h => ⟨arTag_fr h, fun i => ⟨arTag_loc h i, arTag_stk h i⟩⟩)
  have J2 : Hid (OwnAr own B w2 (.slice A2 s.heap.length a2) (markH s.heap k1) Z) := h2
  have J3 : Hid (IRow B w2 (.slice A3 s.out.length a3) s.out ∧ Room own B w2 (.slice A3 s.out.length a3) 1 .out) := ⟨H3.out.1.wrote H3.out.2 hw2 (fun b j h => arTag_out h), H3.out.2.wrote hw2⟩
  clear z0 c1
  obtain ⟨z0, -, -, c2, -⟩ := (HN.out w2 _ HW2.out (fun _ _ h => h)).cells
  obtain ⟨k2, hk2⟩ : ∃ k2, k2 = k1 + cntH s.heap := ⟨_, rfl⟩
  have Hk2 : Hid (k2 = k1 + cntH s.heap) := hk2
  rw [← hk2]
  have hk2' : k2 ≤ 100000000 := by omega
  clear h2 hw2 han hk2 H1 H2 H3
  go_wp2_with fail
  refine (markSpan _ s.out k2 .out w2 J3.out.1 J3.out.2 Hsm.out.2.2 (by omega)).mono ?_
  rintro e w3 ⟨rfl, hw3, h3⟩
  have K1 : Hid (OwnFr own B w3 (.slice A1 s.frames.length a1) (markF s.frames k) X Y) := J1.out.wrote hw3 (fun b j h => ⟨(by rw [h]; intro e; cases e), fun i => ⟨(by rw [h]; intro e; cases e), (by rw [h]; intro e; cases e)⟩⟩)
  have K2 : Hid (OwnAr own B w3 (.slice A2 s.heap.length a2) (markH s.heap k1) Z) := J2.out.wrote hw3 (fun b j h => ⟨(by rw [h]; intro e; cases e), fun i => (by rw [h]; intro e; cases e)⟩)
  have K3 : Hid (IRow B w3 (.slice A3 s.out.length a3) (marks s.out.length k2) ∧ Room own B w3 (.slice A3 s.out.length a3) 1 .out) := ⟨h3, J3.out.2.wrote hw3⟩
  have HW3 : Hid (Wrote B (fun b j => own b j ≠ .no) wa w3) := HW2.out.trans (hw3.mono (fun i j h e => by rw [h] at e; cases e))
  obtain ⟨k3, hk3⟩ : ∃ k3, k3 = k2 + s.out.length := ⟨_, rfl⟩
  have Hk3 : Hid (k3 = k + cntS s) := by show k3 = _; rw [hk3, Hk2.out, Hk1.out]; unfold cntS; omega
  rw [← hk3]
  clear z0 c2 hw3 h3 J1 J2 J3 hk3
  go_wp2_with fail
  go_ret
  refine ⟨by rw [← Hk3.out]; rfl, ⟨K1.out, ?_, ?_, K3.out.2⟩, Sa.out.wrote HW3.out (fun _ _ h => h)⟩
  · rw [show (markS s k).heap = markH s.heap k1 by unfold markS; rw [Hk1.out]]; exact K2.out
  · rw [show (markS s k).out = marks s.out.length k2 by unfold markS; rw [Hk2.out, Hk1.out]]; exact K3.out.1

end Go.Proofs.YtnknnncehcofnaaGreatDoor

namespace Go.Proofs.YtnknnncehcofnaaGreatDoor
open Go.RowKit

/-- what is left, or -1 -/
def less (left : Int) (n : Nat) : Int := if (n : Int) ≤ left then left - n else -1

theorem szIns {B : Nat} (v : Value) (c : List (Int × Int)) (left : Int) (w : World) (hr : InsRow B w v c) (h0 : 0 ≤ left) (h1 : left ≤ 1048576) :
    Calls Tryz.prog 168 #[v, .int .i64 left] w fun e w' => (e = .returned (.int .i64 (less left c.length))) ∧ w' = w := by
  obtain ⟨A, cap, rfl, hn, hc⟩ := hr
  clear hc
  unfold less
  by_cases hl : (c.length : Int) ≤ left
  · rw [if_pos hl]
    go_enter Tryz.func168, Tryz.ntmps168
    go_wp2
    go_ret
    exact ⟨rfl, rfl⟩
  · rw [if_neg hl]
    go_enter Tryz.func168, Tryz.ntmps168
    go_wp2
    go_ret
    exact ⟨rfl, rfl⟩

theorem szFn {B : Nat} (x y : Int) (v : Value) (c : List (Int × Int)) (left : Int) (w : World) (hr : InsRow B w v c) (h0 : 0 ≤ left) (h1 : left ≤ 1048576) :
    Calls Tryz.prog 102 #[.agg #[.int .i64 x, .int .i64 y, v], .int .i64 left] w fun e w' => (e = .returned (.int .i64 (less left c.length))) ∧ Below w.heap.size w w' := by
  have Hr : Hid (InsRow B w v c) := hr
  obtain ⟨A, cap, rfl, hn, hc⟩ := hr
  clear hc
  go_enter Tryz.func102, Tryz.ntmps102
  go_wp2_with fail
  refine (szIns _ c left _ (Hr.out.below ((Below.refl _ _).alloc (Nat.le_refl _) _)) h0 h1).mono ?_
  rintro e w1 ⟨rfl, h⟩
  subst w1
  have hq : less left c.length = -1 ∨ 0 ≤ less left c.length := by unfold less; split <;> omega
  obtain ⟨q, Hq⟩ : ∃ q, Hid (q = less left c.length) := ⟨_, rfl⟩
  rw [← Hq.out] at hq ⊢
  rcases hq with rfl | hq
  · go_wp2_with fail
    go_ret
    exact ⟨by rw [← Hq.out]; rfl, (Below.refl _ _).alloc (Nat.le_refl _) _⟩
  · go_wp2_with fail
    go_ret
    exact ⟨by rw [← Hq.out]; rfl, (Below.refl _ _).alloc (Nat.le_refl _) _⟩

theorem sum_take_succ (l : List FnM) (k : Nat) (h : k < l.length) : ((l.take (k + 1)).map fun f => f.code.length).sum = ((l.take k).map fun f => f.code.length).sum + l[k].code.length := by
  rw [List.take_succ_eq_append_getElem h, List.map_append, List.sum_append]
  simp

theorem sum_take_le (l : List FnM) (k : Nat) : ((l.take k).map fun f => f.code.length).sum ≤ (l.map fun f => f.code.length).sum := by
  conv => rhs; rw [← List.take_append_drop k l, List.map_append, List.sum_append]
  omega

set_option maxHeartbeats 800000 in
theorem szFns {B : Nat} (v : Value) (p : List FnM) (left : Int) (w : World) (hr : FnRow B w v p) (h0 : 0 ≤ left) (h1 : left ≤ 1048576) :
    Calls Tryz.prog 49 #[v, .int .i64 left] w fun e w' => (e = .returned (.int .i64 (less left (bulk p)))) ∧ Below w.heap.size w w' := by
  have Hr : Hid (FnRow B w v p) := hr
  obtain ⟨A, cap, rfl, hn, hc⟩ := hr
  clear hc
  by_cases hl : (p.length : Int) ≤ left
  · go_enter Tryz.func49, Tryz.ntmps49
    go_wp2
    go_loopw [1, 5] (fun l i wr => ∃ (k : Nat), k ≤ p.length ∧ i = .int .i64 k ∧ ∃ m : Int, l = .int .i64 m ∧ m = left - p.length - ((p.take k).map fun f => f.code.length).sum ∧ 0 ≤ m ∧ Below w.heap.size w wr)
      (fun _ i _ => p.length - (intOf i).toNat)
    case atStart => exact ⟨0, Nat.zero_le _, rfl, _, rfl, by simp, by omega, Below.refl _ _⟩
    case round =>
      obtain ⟨k, hk, rfl, m, rfl, hm, hm0, hb⟩ := hrel
      have Hb : Hid (Below w.heap.size w wr) := hb
      have Hm : Hid (m = left - p.length - ((p.take k).map fun f => f.code.length).sum) := hm
      clear hb hm
      by_cases hkl : k < p.length
      · obtain ⟨A', cap', he, _, hc⟩ := Hr.out.below Hb.out
        simp only [Value.slice.injEq] at he
        obtain ⟨rfl, _, rfl⟩ := he
        obtain ⟨b, off, x, rfl, _, hlt, c0, c1, c2, hx⟩ := hc k hkl
        have Hx : Hid (InsRow B wr x p[k].code) := hx
        clear hc hx
        go_wp2_with fail
        refine (szFn _ _ x _ m _ Hx.out hm0 (by have := Hm.out; omega)).mono ?_
        rintro e w1 ⟨rfl, hb1⟩
        have Hb1 : Hid (Below w.heap.size w w1) := Hb.out.trans (hb1.mono Hb.out.size)
        clear hb1
        by_cases hq : (p[k].code.length : Int) ≤ m
        · rw [show less m p[k].code.length = m - p[k].code.length by unfold less; rw [if_pos hq]]
          go_wp2_with fail
          go_roundw
          case rel => exact ⟨k + 1, by omega, by go_num, _, rfl, by rw [sum_take_succ p k hkl]; have := Hm.out; omega, by omega, Hb1.out⟩
          case measure => simp [intOf]; omega
        · rw [show less m p[k].code.length = -1 by unfold less; rw [if_neg hq]]
          go_wp2_with fail
          go_ret
          refine ⟨?_, Hb1.out⟩
          unfold less bulk
          rw [if_neg]
          · rfl
          · have h1 := sum_take_succ p k hkl
            have h2 := sum_take_le p (k + 1)
            have := Hm.out
            omega
      · go_wp2_with fail
        go_ret
        refine ⟨?_, Hb.out⟩
        have h3 := Hm.out
        rw [List.take_of_length_le (by omega)] at h3
        unfold less bulk
        rw [if_pos (by omega)]
        show Ending.returned (.int .i64 m) = _
        rw [h3]
        congr 2
        omega
  · have hL : less left (bulk p) = -1 := by unfold less bulk; rw [if_neg (by omega)]
    rw [hL]
    go_enter Tryz.func49, Tryz.ntmps49
    go_wp2
    go_ret
    exact ⟨rfl, Below.refl _ _⟩

theorem szPrg {B : Nat} (v : Value) (p : List FnM) (left : Int) (w : World) (hr : FnRow B w v p) (h0 : 0 ≤ left) (h1 : left ≤ 1048576) :
    Calls Tryz.prog 13 #[.agg #[v], .int .i64 left] w fun e w' => (e = .returned (.int .i64 (less left (bulk p)))) ∧ Below w.heap.size w w' := by
  have Hr : Hid (FnRow B w v p) := hr
  obtain ⟨A, cap, rfl, hn, hc⟩ := hr
  clear hc
  go_enter Tryz.func13, Tryz.ntmps13
  go_wp2_with fail
  refine (szFns _ p left _ (Hr.out.below ((Below.refl _ _).alloc (Nat.le_refl _) _)) h0 h1).mono ?_
  rintro e w1 ⟨rfl, hb1⟩
  have Hb1 : Hid (Below w.heap.size w w1) := ((Below.refl _ _).alloc (Nat.le_refl _) _).trans (hb1.mono (by simp))
  clear hb1
  have hq : less left (bulk p) = -1 ∨ 0 ≤ less left (bulk p) := by unfold less; split <;> omega
  obtain ⟨q, Hq⟩ : ∃ q, Hid (q = less left (bulk p)) := ⟨_, rfl⟩
  rw [← Hq.out] at hq ⊢
  rcases hq with rfl | hq
  · go_wp2_with fail
    go_ret
    exact ⟨by rw [← Hq.out]; rfl, Hb1.out⟩
  · go_wp2_with fail
    go_ret
    exact ⟨by rw [← Hq.out]; rfl, Hb1.out⟩
end Go.Proofs.YtnknnncehcofnaaGreatDoor

namespace Go.Proofs.YtnknnncehcofnaaGreatDoor
open Go.RowKit

theorem less_less (left : Int) (a b : Nat) (h : 0 ≤ less left a) : less (less left a) b = less left (a + b) := by
  unfold less at h ⊢
  by_cases h1 : (a : Int) ≤ left
  · rw [if_pos h1]
    by_cases h2 : (b : Int) ≤ left - a
    · rw [if_pos h2, if_pos (by omega)]; omega
    · rw [if_neg h2, if_neg (by omega)]
  · rw [if_neg h1] at h; omega
theorem less_neg (left : Int) (a b : Nat) (h : less left a < 0) : less left (a + b) = -1 := by
  unfold less at h ⊢
  by_cases h1 : (a : Int) ≤ left
  · rw [if_pos h1] at h; omega
  · rw [if_neg (by omega)]
theorem less_two (left : Int) (n : Nat) : less left n = -1 ∨ (0 ≤ less left n ∧ less left n ≤ left) := by unfold less; split <;> omega

theorem szInts {B : Nat} (v : Value) (c : List Int) (left : Int) (w : World) (hr : IRow B w v c) (h0 : 0 ≤ left) (h1 : left ≤ 1048576) :
    Calls Tryz.prog 52 #[v, .int .i64 left] w fun e w' => (e = .returned (.int .i64 (less left c.length))) ∧ w' = w := by
  obtain ⟨A, cap, rfl, hn, hc⟩ := hr
  clear hc
  unfold less
  by_cases hl : (c.length : Int) ≤ left
  · rw [if_pos hl]
    go_enter Tryz.func52, Tryz.ntmps52
    go_wp2
    go_ret
    exact ⟨rfl, rfl⟩
  · rw [if_neg hl]
    go_enter Tryz.func52, Tryz.ntmps52
    go_wp2
    go_ret
    exact ⟨rfl, rfl⟩

set_option maxHeartbeats 800000 in
theorem szFrame {B : Nat} (x y : Int) (v u : Value) (l t : List Int) (left : Int) (w : World) (hr : IRow B w v l) (hu : IRow B w u t) (h0 : 0 ≤ left) (h1 : left ≤ 1048576) :
    Calls Tryz.prog 103 #[.agg #[.int .i64 x, .int .i64 y, v, u], .int .i64 left] w fun e w' => (e = .returned (.int .i64 (less left (l.length + t.length)))) ∧ Below w.heap.size w w' := by
  have Hr : Hid (IRow B w v l) := hr
  have Hu : Hid (IRow B w u t) := hu
  obtain ⟨A, cap, rfl⟩ := hr.form
  obtain ⟨D, dap, rfl⟩ := hu.form
  clear hr hu
  go_enter Tryz.func103, Tryz.ntmps103
  go_wp2_with fail
  refine (szInts _ l left _ (Hr.out.below ((Below.refl _ _).alloc (Nat.le_refl _) _)) h0 h1).mono ?_
  rintro e w1 ⟨rfl, h⟩
  subst w1
  have hq := less_two left l.length
  obtain ⟨q, Hq⟩ : ∃ q, Hid (q = less left l.length) := ⟨_, rfl⟩
  rw [← Hq.out] at hq ⊢
  rcases hq with rfl | ⟨hq, hq'⟩
  · have He : Hid (less left (l.length + t.length) = -1) := less_neg _ _ _ (by rw [← Hq.out]; omega)
    go_wp2_with fail
    go_ret
    exact ⟨by rw [He.out]; rfl, (Below.refl _ _).alloc (Nat.le_refl _) _⟩
  · go_wp2_with fail
    refine (szInts _ t q _ (Hu.out.below ((Below.refl _ _).alloc (Nat.le_refl _) _)) hq (by omega)).mono ?_
    rintro e w1 ⟨rfl, h⟩
    subst w1
    have He : Hid (less q t.length = less left (l.length + t.length)) := by show less q t.length = _; rw [Hq.out]; exact less_less _ _ _ (by rw [← Hq.out]; exact hq)
    have hp := less_two q t.length
    obtain ⟨p, Hp⟩ : ∃ p, Hid (p = less q t.length) := ⟨_, rfl⟩
    rw [← Hp.out] at hp ⊢
    rcases hp with rfl | ⟨hp, hp'⟩
    · go_wp2_with fail
      go_ret
      exact ⟨by rw [← He.out, ← Hp.out]; rfl, (Below.refl _ _).alloc (Nat.le_refl _) _⟩
    · go_wp2_with fail
      go_ret
      exact ⟨by rw [← He.out, ← Hp.out]; rfl, (Below.refl _ _).alloc (Nat.le_refl _) _⟩

set_option maxHeartbeats 800000 in
theorem szFrames {B : Nat} (v : Value) (p : List FrM) (left : Int) (w : World) (hr : FrRow B w v p) (h0 : 0 ≤ left) (h1 : left ≤ 1048576) :
    Calls Tryz.prog 50 #[v, .int .i64 left] w fun e w' => (e = .returned (.int .i64 (less left (bulkF p)))) ∧ Below w.heap.size w w' := by
  have Hr : Hid (FrRow B w v p) := hr
  obtain ⟨A, cap, rfl, hn, hc⟩ := hr
  clear hc
  by_cases hl : (p.length : Int) ≤ left
  · go_enter Tryz.func50, Tryz.ntmps50
    go_wp2
    go_loopw [1, 5] (fun l i wr => ∃ (k : Nat), k ≤ p.length ∧ i = .int .i64 k ∧ ∃ m : Int, l = .int .i64 m ∧ m = left - p.length - ((p.take k).map FrM.bulk).sum ∧ 0 ≤ m ∧ Below w.heap.size w wr)
      (fun _ i _ => p.length - (intOf i).toNat)
    case atStart => exact ⟨0, Nat.zero_le _, rfl, _, rfl, by simp, by omega, Below.refl _ _⟩
    case round =>
      obtain ⟨k, hk, rfl, m, rfl, hm, hm0, hb⟩ := hrel
      have Hb : Hid (Below w.heap.size w wr) := hb
      have Hm : Hid (m = left - p.length - ((p.take k).map FrM.bulk).sum) := hm
      clear hb hm
      by_cases hkl : k < p.length
      · obtain ⟨b, off, x, y, rfl, hlt, c0, c1, c2, c3, hx, hy⟩ := (Hr.out.below Hb.out).at k hkl
        have Hx : Hid (IRow B wr x p[k].locals) := hx
        have Hy : Hid (IRow B wr y p[k].stack) := hy
        clear hx hy
        go_wp2_with fail
        refine (szFrame _ _ x y _ _ m _ Hx.out Hy.out hm0 (by have := Hm.out; omega)).mono ?_
        rintro e w1 ⟨rfl, hb1⟩
        have Hb1 : Hid (Below w.heap.size w w1) := Hb.out.trans (hb1.mono Hb.out.size)
        clear hb1
        have hsu := sum_succ FrM.bulk p k hkl
        have hpa := sum_part FrM.bulk p (k + 1)
        rw [show FrM.bulk p[k] = p[k].locals.length + p[k].stack.length from rfl] at hsu
        have Hsu : Hid (((p.take (k + 1)).map FrM.bulk).sum = ((p.take k).map FrM.bulk).sum + (p[k].locals.length + p[k].stack.length)) := hsu
        have Hpa : Hid (((p.take (k + 1)).map FrM.bulk).sum ≤ (p.map FrM.bulk).sum) := hpa
        clear hsu hpa
        by_cases hq : ((p[k].locals.length + p[k].stack.length : Nat) : Int) ≤ m
        · rw [show less m (p[k].locals.length + p[k].stack.length) = m - (p[k].locals.length + p[k].stack.length : Nat) by unfold less; rw [if_pos hq]]
          go_wp2_with fail
          go_roundw
          case rel => exact ⟨k + 1, by omega, by go_num, _, rfl, by rw [Hsu.out]; have := Hm.out; omega, by omega, Hb1.out⟩
          case measure => simp [intOf]; omega
        · rw [show less m (p[k].locals.length + p[k].stack.length) = -1 by unfold less; rw [if_neg hq]]
          go_wp2_with fail
          go_ret
          refine ⟨?_, Hb1.out⟩
          unfold less bulkF
          rw [if_neg]
          · rfl
          · have h1 := Hsu.out
            have h2 := Hpa.out
            have := Hm.out
            omega
      · go_wp2_with fail
        go_ret
        refine ⟨?_, Hb.out⟩
        have h3 := Hm.out
        rw [List.take_of_length_le (by omega)] at h3
        unfold less bulkF
        rw [if_pos (by omega)]
        show Ending.returned (.int .i64 m) = _
        rw [h3]
        congr 2
        omega
  · have hL : less left (bulkF p) = -1 := by unfold less bulkF; rw [if_neg (by omega)]
    rw [hL]
    go_enter Tryz.func50, Tryz.ntmps50
    go_wp2
    go_ret
    exact ⟨rfl, Below.refl _ _⟩

set_option maxHeartbeats 800000 in
theorem szArrs {B : Nat} (v : Value) (p : List (List Int)) (left : Int) (w : World) (hr : ArrRow B w v p) (h0 : 0 ≤ left) (h1 : left ≤ 1048576) :
    Calls Tryz.prog 51 #[v, .int .i64 left] w fun e w' => (e = .returned (.int .i64 (less left (bulkH p)))) ∧ Below w.heap.size w w' := by
  have Hr : Hid (ArrRow B w v p) := hr
  obtain ⟨A, cap, rfl, hn, hc⟩ := hr
  clear hc
  by_cases hl : (p.length : Int) ≤ left
  · go_enter Tryz.func51, Tryz.ntmps51
    go_wp2
    go_loopw [1, 5] (fun l i wr => ∃ (k : Nat), k ≤ p.length ∧ i = .int .i64 k ∧ ∃ m : Int, l = .int .i64 m ∧ m = left - p.length - ((p.take k).map List.length).sum ∧ 0 ≤ m ∧ Below w.heap.size w wr)
      (fun _ i _ => p.length - (intOf i).toNat)
    case atStart => exact ⟨0, Nat.zero_le _, rfl, _, rfl, by simp, by omega, Below.refl _ _⟩
    case round =>
      obtain ⟨k, hk, rfl, m, rfl, hm, hm0, hb⟩ := hrel
      have Hb : Hid (Below w.heap.size w wr) := hb
      have Hm : Hid (m = left - p.length - ((p.take k).map List.length).sum) := hm
      clear hb hm
      by_cases hkl : k < p.length
      · obtain ⟨b, off, x, rfl, hlt, c0, hx⟩ := (Hr.out.below Hb.out).at k hkl
        have Hx : Hid (IRow B wr x p[k]) := hx
        obtain ⟨Ax, cx, rfl⟩ := hx.form
        clear hx
        go_wp2_with fail
        refine (szInts _ _ m _ Hx.out hm0 (by have := Hm.out; omega)).mono ?_
        rintro e w1 ⟨rfl, hw1⟩
        subst w1
        have Hsu : Hid (((p.take (k + 1)).map List.length).sum = ((p.take k).map List.length).sum + p[k].length) := sum_succ List.length p k hkl
        have Hpa : Hid (((p.take (k + 1)).map List.length).sum ≤ (p.map List.length).sum) := sum_part List.length p (k + 1)
        by_cases hq : (p[k].length : Int) ≤ m
        · rw [show less m p[k].length = m - p[k].length by unfold less; rw [if_pos hq]]
          go_wp2_with fail
          go_roundw
          case rel => exact ⟨k + 1, by omega, by go_num, _, rfl, by rw [Hsu.out]; have := Hm.out; omega, by omega, Hb.out⟩
          case measure => simp [intOf]; omega
        · rw [show less m p[k].length = -1 by unfold less; rw [if_neg hq]]
          go_wp2_with fail
          go_ret
          refine ⟨?_, Hb.out⟩
          unfold less bulkH
          rw [if_neg]
          · rfl
          · have h1 := Hsu.out
            have h2 := Hpa.out
            have := Hm.out
            omega
      · go_wp2_with fail
        go_ret
        refine ⟨?_, Hb.out⟩
        have h3 := Hm.out
        rw [List.take_of_length_le (by omega)] at h3
        unfold less bulkH
        rw [if_pos (by omega)]
        show Ending.returned (.int .i64 m) = _
        rw [h3]
        congr 2
        omega
  · have hL : less left (bulkH p) = -1 := by unfold less bulkH; rw [if_neg (by omega)]
    rw [hL]
    go_enter Tryz.func51, Tryz.ntmps51
    go_wp2
    go_ret
    exact ⟨rfl, Below.refl _ _⟩

set_option maxHeartbeats 1600000 in
theorem szState {B : Nat} (x y z : Value) (s : StM) (left : Int) (w : World) (hr : StRow B w x y z s) (h0 : 0 ≤ left) (h1 : left ≤ 1048576) :
    Calls Tryz.prog 14 #[stV x y z s, .int .i64 left] w fun e w' => (e = .returned (.int .i64 (less left s.bulk))) ∧ Below w.heap.size w w' := by
  obtain ⟨hx, hy, hz⟩ := hr
  have Hx : Hid (FrRow B w x s.frames) := hx
  have Hy : Hid (ArrRow B w y s.heap) := hy
  have Hz : Hid (IRow B w z s.out) := hz
  obtain ⟨A, cap, rfl⟩ := hx.form
  obtain ⟨D, dap, rfl⟩ := hy.form
  obtain ⟨E, eap, rfl⟩ := hz.form
  clear hx hy hz
  unfold stV
  obtain ⟨C, hC⟩ : ∃ C : Array Value, C = #[.slice A s.frames.length cap, .slice D s.heap.length dap, .slice E s.out.length eap, .int .i64 s.fuel, .bool s.done, .int .i64 s.value, .int .i64 s.trap] := ⟨_, rfl⟩
  have X0 : Hid (Box (w.alloc (.cells C 40)) w.heap.size C) := box_new w C 40
  have X2 : Hid (Below w.heap.size w (w.alloc (.cells C 40))) := (Below.refl _ _).alloc (Nat.le_refl _) _
  rw [hC] at X0 X2
  have Hk : Hid (∀ w', Below (w.alloc (.cells C 40)).heap.size (w.alloc (.cells C 40)) w' → w'.cell? ⟨w.heap.size, 1, none⟩ = some (.slice D s.heap.length dap) ∧ w'.cell? ⟨w.heap.size, 2, none⟩ = some (.slice E s.out.length eap) ∧ w.heap.size < w'.heap.size ∧ ArrRow B w' (.slice D s.heap.length dap) s.heap ∧ IRow B w' (.slice E s.out.length eap) s.out ∧ Below w.heap.size w w') := by
    intro w' h
    rw [hC] at h
    have b0 := X0.out.below h
    have hw := X2.out.trans (h.mono X2.out.size)
    exact ⟨b0.at1, b0.at2, b0.1, Hy.out.below hw, Hz.out.below hw, hw⟩
  rw [hC] at Hk
  clear hC C X0
  have hsb : s.bulk = bulkF s.frames + bulkH s.heap + s.out.length := rfl
  go_enter Tryz.func14, Tryz.ntmps14
  go_wp2_with fail
  refine (szFrames _ s.frames left _ (Hx.out.below X2.out) h0 h1).mono ?_
  rintro e w1 ⟨rfl, hb1⟩
  obtain ⟨c1, c2, cz, -, -, -⟩ := Hk.out _ hb1
  have hq := less_two left (bulkF s.frames)
  obtain ⟨q, Hq⟩ : ∃ q, Hid (q = less left (bulkF s.frames)) := ⟨_, rfl⟩
  rw [← Hq.out] at hq ⊢
  have Hb1 : Hid (Below (w.alloc (.cells #[.slice A s.frames.length cap, .slice D s.heap.length dap, .slice E s.out.length eap, .int .i64 s.fuel, .bool s.done, .int .i64 s.value, .int .i64 s.trap] 40)).heap.size (w.alloc (.cells #[.slice A s.frames.length cap, .slice D s.heap.length dap, .slice E s.out.length eap, .int .i64 s.fuel, .bool s.done, .int .i64 s.value, .int .i64 s.trap] 40)) w1) := hb1
  clear hb1
  rcases hq with rfl | ⟨hq, hq'⟩
  · have He : Hid (less left s.bulk = -1) := by show less left s.bulk = -1; rw [hsb, Nat.add_assoc]; exact less_neg _ _ _ (by rw [← Hq.out]; omega)
    go_wp2_with fail
    go_ret
    exact ⟨by rw [He.out]; rfl, (Hk.out _ Hb1.out).2.2.2.2.2⟩
  · go_wp2_with fail
    refine (szArrs _ s.heap q _ (Hk.out _ Hb1.out).2.2.2.1 hq (by omega)).mono ?_
    rintro e w2 ⟨rfl, hb2⟩
    have hb12 := Hb1.out.trans (hb2.mono Hb1.out.size)
    have Hb2 : Hid (Below (w.alloc (.cells #[.slice A s.frames.length cap, .slice D s.heap.length dap, .slice E s.out.length eap, .int .i64 s.fuel, .bool s.done, .int .i64 s.value, .int .i64 s.trap] 40)).heap.size (w.alloc (.cells #[.slice A s.frames.length cap, .slice D s.heap.length dap, .slice E s.out.length eap, .int .i64 s.fuel, .bool s.done, .int .i64 s.value, .int .i64 s.trap] 40)) w2) := hb12
    clear hb2 hb12 c1 c2 cz Hb1
    obtain ⟨-, c2, cz, -, -, -⟩ := Hk.out _ Hb2.out
    have He : Hid (less q (bulkH s.heap) = less left (bulkF s.frames + bulkH s.heap)) := by show less q _ = _; rw [Hq.out]; exact less_less _ _ _ (by rw [← Hq.out]; exact hq)
    have hp := less_two q (bulkH s.heap)
    obtain ⟨p, Hp⟩ : ∃ p, Hid (p = less q (bulkH s.heap)) := ⟨_, rfl⟩
    rw [← Hp.out] at hp ⊢
    rcases hp with rfl | ⟨hp, hp'⟩
    · have He2 : Hid (less left s.bulk = -1) := by show less left s.bulk = -1; rw [hsb]; exact less_neg _ _ _ (by rw [← He.out, ← Hp.out]; omega)
      go_wp2_with fail
      go_ret
      exact ⟨by rw [He2.out]; rfl, (Hk.out _ Hb2.out).2.2.2.2.2⟩
    · go_wp2_with fail
      refine (szInts _ s.out p _ (Hk.out _ Hb2.out).2.2.2.2.1 hp (by omega)).mono ?_
      rintro e w3 ⟨rfl, hw3⟩
      subst w3
      have He3 : Hid (less p s.out.length = less left s.bulk) := by show less p _ = _; rw [Hp.out, He.out, hsb]; exact less_less _ _ _ (by rw [← He.out, ← Hp.out]; exact hp)
      have hr := less_two p s.out.length
      obtain ⟨r, Hr⟩ : ∃ r, Hid (r = less p s.out.length) := ⟨_, rfl⟩
      rw [← Hr.out] at hr ⊢
      rcases hr with rfl | ⟨hr, hr'⟩
      · go_wp2_with fail
        go_ret
        exact ⟨by rw [← He3.out, ← Hr.out]; rfl, (Hk.out _ Hb2.out).2.2.2.2.2⟩
      · go_wp2_with fail
        go_ret
        exact ⟨by rw [← He3.out, ← Hr.out]; rfl, (Hk.out _ Hb2.out).2.2.2.2.2⟩
end Go.Proofs.YtnknnncehcofnaaGreatDoor
