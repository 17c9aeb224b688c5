/- laws.eqState, of two states that read the same; a state in a box. -/
import Derived.Test.YtfaameimocjaiaaDoorStEq
namespace Go.Proofs.YtfaameimocjaiaaDoor
open Go.RowKit

/-- block b holds a state's three lists and four fields -/
def StBox (w : World) (b : Nat) (x y z : Value) (s : StM) : Prop := Box w b #[x, y, z, .int .i64 s.fuel, .bool s.done, .int .i64 s.value, .int .i64 s.trap]

theorem StBox.below {w w' : World} {b : Nat} {x y z : Value} {s : StM} (h : StBox w b x y z s) (hb : Below w.heap.size w w') : StBox w' b x y z s := Box.below h hb

theorem StBox.cells {w : World} {b : Nat} {x y z : Value} {s : StM} (h : StBox w b x y z s) : b < w.heap.size ∧ w.cell? ⟨b, 0, none⟩ = some x ∧ w.cell? ⟨b, 1, none⟩ = some y ∧ w.cell? ⟨b, 2, none⟩ = some z ∧ w.cell? ⟨b, 3, none⟩ = some (.int .i64 s.fuel) ∧ w.cell? ⟨b, 4, none⟩ = some (.bool s.done) ∧ w.cell? ⟨b, 5, none⟩ = some (.int .i64 s.value) ∧ w.cell? ⟨b, 6, none⟩ = some (.int .i64 s.trap) :=
  ⟨h.1, h.2 0, h.2 1, h.2 2, h.2 3, h.2 4, h.2 5, h.2 6⟩

theorem stBox_new (w : World) (x y z : Value) (s : StM) (t : TypeId) : StBox (w.alloc (.cells #[x, y, z, .int .i64 s.fuel, .bool s.done, .int .i64 s.value, .int .i64 s.trap] t)) w.heap.size x y z s := box_new w _ t

set_option maxRecDepth 100000 in
set_option maxHeartbeats 1600000 in
theorem eqState {B C : Nat} (x y z x' y' z' : Value) (s : StM) (w : World) (hr : StRow B w x y z s) (ht : StRow C w x' y' z' s) :
    Calls Tryd.prog 14 #[stV x y z s, stV x' y' z' s] w fun e w' => e = .returned (.bool true) ∧ Below w.heap.size w w' := by
  obtain ⟨h1, h2, h3⟩ := hr
  obtain ⟨k1, k2, k3⟩ := ht
  have H1 : Hid (FrRow B w x s.frames) := h1
  have H2 : Hid (ArrRow B w y s.heap) := h2
  have H3 : Hid (IRow B w z s.out) := h3
  have K1 : Hid (FrRow C w x' s.frames) := k1
  have K2 : Hid (ArrRow C w y' s.heap) := k2
  have K3 : Hid (IRow C w z' s.out) := k3
  obtain ⟨A1, c1, rfl⟩ := h1.form
  obtain ⟨A2, c2, rfl⟩ := h2.form
  obtain ⟨A3, c3, rfl⟩ := h3.form
  obtain ⟨D1, e1, rfl⟩ := k1.form
  obtain ⟨D2, e2, rfl⟩ := k2.form
  obtain ⟨D3, e3, rfl⟩ := k3.form
  clear h1 h2 h3 k1 k2 k3
  unfold stV
  obtain ⟨p0, p1, p2⟩ := boxes_new w #[.slice A1 s.frames.length c1, .slice A2 s.heap.length c2, .slice A3 s.out.length c3, .int .i64 s.fuel, .bool s.done, .int .i64 s.value, .int .i64 s.trap] #[.slice D1 s.frames.length e1, .slice D2 s.heap.length e2, .slice D3 s.out.length e3, .int .i64 s.fuel, .bool s.done, .int .i64 s.value, .int .i64 s.trap] 37 37
  have X0 : Hid (StBox _ w.heap.size (.slice A1 s.frames.length c1) (.slice A2 s.heap.length c2) (.slice A3 s.out.length c3) s) := p0
  have X1 : Hid (StBox _ (w.heap.size + 1) (.slice D1 s.frames.length e1) (.slice D2 s.heap.length e2) (.slice D3 s.out.length e3) s) := p1
  have X2 : Hid (Below w.heap.size w _) := p2
  clear p0 p1 p2
  go_enter Tryd.func14, Tryd.ntmps14
  go_wp2_with fail
  refine (eqFrames _ _ s.frames _ (H1.out.below X2.out) (K1.out.below X2.out)).mono ?_
  rintro e w1 ⟨rfl, hb1⟩
  have Hb1 : Hid (Below w.heap.size w w1) := X2.out.trans (hb1.mono X2.out.size)
  have Y0 : Hid (StBox w1 w.heap.size (.slice A1 s.frames.length c1) (.slice A2 s.heap.length c2) (.slice A3 s.out.length c3) s) := X0.out.below hb1
  have Y1 : Hid (StBox w1 (w.heap.size + 1) (.slice D1 s.frames.length e1) (.slice D2 s.heap.length e2) (.slice D3 s.out.length e3) s) := X1.out.below hb1
  obtain ⟨s0, -, d0, -⟩ := Y0.out.cells
  obtain ⟨s1, -, d1, -⟩ := Y1.out.cells
  clear hb1 X0 X1
  go_wp2_with fail
  refine (eqArrs _ _ s.heap _ (H2.out.below Hb1.out) (K2.out.below Hb1.out)).mono ?_
  rintro e w2 ⟨rfl, hb2⟩
  have Hb2 : Hid (Below w.heap.size w w2) := Hb1.out.trans (hb2.mono Hb1.out.size)
  have Z0 : Hid (StBox w2 w.heap.size (.slice A1 s.frames.length c1) (.slice A2 s.heap.length c2) (.slice A3 s.out.length c3) s) := Y0.out.below hb2
  have Z1 : Hid (StBox w2 (w.heap.size + 1) (.slice D1 s.frames.length e1) (.slice D2 s.heap.length e2) (.slice D3 s.out.length e3) s) := Y1.out.below hb2
  clear s0 d0 s1 d1
  obtain ⟨s0, -, -, d0, -⟩ := Z0.out.cells
  obtain ⟨s1, -, -, d1, -⟩ := Z1.out.cells
  clear hb2 Y0 Y1
  go_wp2_with fail
  refine (eqInts _ _ s.out _ (H3.out.below Hb2.out) (K3.out.below Hb2.out)).mono ?_
  rintro e w3 ⟨rfl, hb3⟩
  have Hb3 : Hid (Below w.heap.size w w3) := Hb2.out.trans (hb3.mono Hb2.out.size)
  have V0 := Z0.out.below hb3
  have V1 := Z1.out.below hb3
  clear s0 d0 s1 d1 hb3 Z0 Z1
  obtain ⟨s0, -, -, -, d0, d1, d2, d3⟩ := V0.cells
  obtain ⟨s1, -, -, -, r0, r1, r2, r3⟩ := V1.cells
  clear V0 V1
  go_wp2_with fail
  go_ret
  exact ⟨rfl, Hb3.out⟩
end Go.Proofs.YtfaameimocjaiaaDoor
