/- Marks in a state of the call's own: laws.markInt64S, markFrameS, markInt64SS, markState, heldFrameS, heldInt64SS, heldState. -/
import Derived.Test.YtnknnncehcofnaaGreatDoorJ13RightP6
import Derived.Test.YtnknnncehcofnaaGreatDoorJ14Marks
namespace Go.Proofs.YtnknnncehcofnaaGreatDoor
open Go.RowKit

/-- numbers are marked, wherever their slice begins -/
theorem markSpan {own : Nat → Nat → Tag} {B : Nat} (v : Value) (zs : List Int) (k : Nat) (t : Tag) (w : World) (hv : IRow B w v zs) (hr : Room own B w v 1 t) (hl : zs.length ≤ 1048576) (hk : k ≤ 4000000000) :
    Calls Tryz.prog 32 #[v, .int .i64 k] w fun e w' => e = .returned (.int .i64 (k + zs.length : Nat)) ∧ Wrote B (fun b j => own b j = t) w w' ∧ IRow B w' v (marks zs.length k) := by
  have Hr : Hid (Room own B w v 1 t) := hr
  obtain ⟨A, cap, rfl⟩ := hv.form
  obtain ⟨A', n', cap', he, hn', hroom⟩ := hr
  simp only [Value.slice.injEq] at he
  obtain ⟨rfl, rfl, rfl⟩ := he
  obtain ⟨n, hn⟩ : ∃ n, n = zs.length := ⟨_, rfl⟩
  rw [← hn] at hl hn' Hr ⊢
  have Hroom : Hid (∀ j, j < cap → ∃ b off, A = some ⟨b, off, none⟩ ∧ B ≤ b ∧ b < w.heap.size ∧ (w.cell? ⟨b, off + j, none⟩).isSome = true ∧ w.frozen? ⟨b, off + j, none⟩ = false ∧ own b (off + j) = t) := by
    show ∀ j, j < cap → _
    intro j hj
    exact hroom j (by omega)
  clear hv hn hroom
  go_enter Tryz.func32, Tryz.ntmps32
  go_wp2
  go_loopg [1, 5] n (fun g y i wr => ∃ q : Nat, q ≤ n ∧ i = .int .i64 q ∧ y = .int .i64 (k + q : Nat) ∧ n ≤ q + g ∧ Wrote B (fun b j => own b j = t) w wr ∧ ∀ j, j < q → ∃ b off, A = some ⟨b, off, none⟩ ∧ wr.cell? ⟨b, off + j, none⟩ = some (.int .i64 ((k + j : Nat) : Int)))
  case atStart => exact ⟨0, Nat.zero_le _, rfl, by simp, by omega, Wrote.refl _ _ _, fun j h => by omega⟩
  case round =>
    obtain ⟨q, hq, rfl, rfl, hqg, hw, hs⟩ := hrel
    have HW : Hid (Wrote B (fun b j => own b j = t) w wr) := hw
    have Hs : Hid (∀ j, j < q → ∃ b off, A = some ⟨b, off, none⟩ ∧ wr.cell? ⟨b, off + j, none⟩ = some (.int .i64 ((k + j : Nat) : Int))) := hs
    clear hw hs
    by_cases hql : q < n
    · obtain ⟨b, off, rfl, hB, hlt, hsome, hfr, hown⟩ := Hroom.out q (by omega)
      have hlt2 : b < wr.heap.size := by rw [HW.out.size]; exact hlt
      have hfr2 : wr.frozen? ⟨b, off + q, none⟩ = false := by rw [HW.out.thaw]; exact hfr
      have hsome2 := HW.out.is _ _ hsome
      obtain ⟨z, hz⟩ := Option.isSome_iff_exists.1 hsome2
      have Hown : Hid (own b (off + q) = t ∧ B ≤ b) := ⟨hown, hB⟩
      clear hsome hsome2 hfr hown hlt hB
      go_wp2_with fail
      go_roundg (gk - 1)
      case measure => omega
      case rel =>
        refine ⟨q + 1, by omega, by go_num, by go_num, by omega, HW.out.trans (Wrote.set _ _ _ _ Hown.out.1 Hown.out.2), fun j hj => ⟨b, off, rfl, ?_⟩⟩
        by_cases he : j = q
        · subst he; exact World.cell?_setCell_same _ _ _ hz
        · obtain ⟨b', off', e, h1⟩ := Hs.out j (by omega)
          simp only [Option.some.injEq, Addr.mk.injEq, and_true] at e
          obtain ⟨rfl, rfl⟩ := e
          rw [World.cell?_setCell_other _ _ _ _ (by intro e; simp at e <;> omega)]
          exact h1
    · have hqn : q = n := by omega
      subst hqn
      go_wp2_with fail
      go_ret
      refine ⟨rfl, HW.out, ⟨A, cap, by rw [marks_length], by rw [marks_length]; omega, fun i hi => ?_⟩⟩
      rw [marks_length] at hi
      obtain ⟨b, off, rfl, h1⟩ := Hs.out i hi
      obtain ⟨b', off', e, k1, k2, _, _, _⟩ := Hroom.out i (by omega)
      simp only [Option.some.injEq, Addr.mk.injEq, and_true] at e
      obtain ⟨rfl, rfl⟩ := e
      exact ⟨b, off, rfl, k1, by rw [HW.out.size]; exact k2, by rw [h1]; simp [marks]⟩

/-- numbers that hold their marks (heldInts, of greater numbers) -/
theorem heldSpan {B : Nat} (v : Value) (n k : Nat) (w : World) (hl : n ≤ 1048576) (hk : k ≤ 1000000000) (hv : IRow B w v (marks n k)) :
    Calls Tryz.prog 33 #[v, .int .i64 k] w fun e w' => e = .returned (.int .i64 (k + n : Nat)) ∧ w' = w := by
  have Hv : Hid (IRow B w v (marks n k)) := hv
  obtain ⟨A, cap, rfl⟩ := hv.form
  clear hv
  have Hm := marks_length n k
  rw [Hm] at Hv ⊢
  go_enter Tryz.func33, Tryz.ntmps33
  go_wp2
  go_loopg [1, 5] n (fun g y i wr => ∃ q : Nat, q ≤ n ∧ i = .int .i64 q ∧ y = .int .i64 (k + q : Nat) ∧ n ≤ q + g ∧ wr = w)
  case atStart => exact ⟨0, Nat.zero_le _, rfl, by simp, by omega, rfl⟩
  case round =>
    obtain ⟨q, hq, rfl, rfl, hqg, hw⟩ := hrel
    subst hw
    by_cases hql : q < n
    · obtain ⟨b, off, rfl, _, hlt, c0⟩ := Hv.out.at q (by omega)
      have hget : (marks n k)[q]'(by rw [Hm]; exact hql) = ((k + q : Nat) : Int) := by simp [marks]
      rw [hget] at c0
      clear hget
      go_wp2_with fail
      go_roundg (gk - 1)
      case measure => omega
      case rel => exact ⟨q + 1, by omega, by go_num, by go_num, by omega, rfl⟩
    · have hqn : q = n := by omega
      subst hqn
      go_wp2_with fail
      go_ret
      exact ⟨rfl, rfl⟩

/-- frames with their marks -/
def cntF (fs : List FrM) : Nat := (fs.map fun f => 2 + f.bulk).sum
def markF : List FrM → Nat → List FrM
  | [], _ => []
  | f :: fs, k => ⟨k, (k + 1 : Nat), marks f.locals.length (k + 2), marks f.stack.length (k + 2 + f.locals.length)⟩ :: markF fs (k + (2 + f.bulk))

theorem markF_length (fs : List FrM) (k : Nat) : (markF fs k).length = fs.length := by
  induction fs generalizing k with
  | nil => rfl
  | cons f fs ih => simp [markF, ih]

theorem markF_get (fs : List FrM) (k i : Nat) (h : i < fs.length) (h' : i < (markF fs k).length) :
    (markF fs k)[i] = ⟨((k + cntF (fs.take i) : Nat) : Int), ((k + cntF (fs.take i) + 1 : Nat) : Int), marks fs[i].locals.length (k + cntF (fs.take i) + 2), marks fs[i].stack.length (k + cntF (fs.take i) + 2 + fs[i].locals.length)⟩ := by
  induction fs generalizing k i with
  | nil => simp at h
  | cons f fs ih =>
    cases i with
    | zero => simp [markF, cntF]
    | succ i =>
      have := ih (k + (2 + f.bulk)) i (by simpa using h) (by simpa [markF] using h')
      simp only [markF, List.getElem_cons_succ, List.take_succ_cons]
      rw [this]
      have e : k + (2 + f.bulk) + cntF (fs.take i) = k + cntF (f :: fs.take i) := by simp [cntF]; omega
      rw [e]

theorem cntF_succ (fs : List FrM) (q : Nat) (h : q < fs.length) : cntF (fs.take (q + 1)) = cntF (fs.take q) + (2 + fs[q].bulk) := sum_succ (fun f : FrM => 2 + f.bulk) fs q h
theorem cntF_part (fs : List FrM) (q : Nat) : cntF (fs.take q) ≤ cntF fs := sum_part (fun f : FrM => 2 + f.bulk) fs q

def FrTag (t : Tag) : Prop := t = .fr ∨ ∃ i, t = .loc i ∨ t = .stk i

set_option maxRecDepth 100000 in
set_option maxHeartbeats 1600000 in
theorem markFrames {own : Nat → Nat → Tag} {B : Nat} (x : Value) (fs : List FrM) (X Y : Nat → Value) (k : Nat) (w : World) (hf : OwnFr own B w x fs X Y) (hk : k + cntF fs ≤ 100000000) (hbig : ∀ i (h : i < fs.length), fs[i].locals.length ≤ 1048576 ∧ fs[i].stack.length ≤ 1048576) :
    Calls Tryz.prog 70 #[x, .int .i64 k] w fun e w' => e = .returned (.int .i64 (k + cntF fs : Nat)) ∧ OwnFr own B w' x (markF fs k) X Y ∧ Wrote B (fun b j => FrTag (own b j)) w w' := by
  have HF : Hid (OwnFr own B w x fs X Y) := hf
  have Hbig : Hid (∀ i (h : i < fs.length), fs[i].locals.length ≤ 1048576 ∧ fs[i].stack.length ≤ 1048576) := hbig
  have hlen := hf.len
  obtain ⟨A, cap, rfl⟩ := hf.form
  clear hf hbig
  go_enter Tryz.func70, Tryz.ntmps70
  go_wp2
  go_loopg [1, 5] (fs.length) (fun g y i wr => ∃ q : Nat, q ≤ fs.length ∧ i = .int .i64 q ∧ y = .int .i64 (k + cntF (fs.take q) : Nat) ∧ fs.length ≤ q + g ∧ Wrote B (fun b j => FrTag (own b j)) w wr ∧ ∃ gs : List FrM, ∃ hgl : gs.length = fs.length, OwnFr own B wr (.slice A fs.length cap) gs X Y ∧ (∀ i (h : i < fs.length), q ≤ i → gs[i]'(by omega) = fs[i]) ∧ (∀ i (h : i < fs.length), i < q → gs[i]'(by omega) = (markF fs k)[i]'(by rw [markF_length]; exact h)))
  case atStart => exact ⟨0, Nat.zero_le _, rfl, by simp [cntF], by omega, Wrote.refl _ _ _, fs, rfl, HF.out, fun _ _ _ => rfl, fun _ _ h => by omega⟩
  case round =>
    obtain ⟨q, hq, rfl, rfl, hqg, hw, gs, hgl, hg, hsame, hdone⟩ := hrel
    have HW : Hid (Wrote B (fun b j => FrTag (own b j)) w wr) := hw
    have HG : Hid (OwnFr own B wr (.slice A fs.length cap) gs X Y) := hg
    have Hsame : Hid (∀ i (h : i < fs.length), q ≤ i → gs[i]'(by omega) = fs[i]) := hsame
    have Hdone : Hid (∀ i (h : i < fs.length), i < q → gs[i]'(by omega) = (markF fs k)[i]'(by rw [markF_length]; exact h)) := hdone
    have hpart := cntF_part fs q
    obtain ⟨kq, hkq⟩ : ∃ kq, kq = k + cntF (fs.take q) := ⟨_, rfl⟩
    rw [← hkq]
    have hkq9 : kq ≤ 100000000 := by omega
    have Hkq : Hid (kq = k + cntF (fs.take q)) := hkq
    have Hgl : Hid (gs.length = fs.length) := hgl
    clear hw hg hsame hdone hpart
    by_cases hql : q < fs.length
    · have hqg' : q < gs.length := by omega
      obtain ⟨b, off, cap', e, hB, hlt, c0, c1, c2, c3, hfz⟩ := HG.out.at q hqg'
      simp only [Value.slice.injEq] at e
      obtain ⟨rfl, -, rfl⟩ := e
      have f0 := (hfz 0 (by omega)).1
      rw [Nat.add_zero] at f0
      have f1 := (hfz 1 (by omega)).1
      obtain ⟨h1, w1⟩ := HG.out.setFunc q hqg' (kq : Int)
      obtain ⟨h2, w2⟩ := h1.setPc q (by simpa using hqg') ((kq + 1 : Nat) : Int)
      have hgq : gs[q] = fs[q] := Hsame.out q hql (Nat.le_refl _)
      simp only [List.set_set, List.getElem_set_self] at h2
      rw [hgq] at h2 c0 c1
      obtain ⟨wa, hwa⟩ : ∃ wa, wa = (wr.setCell ⟨b, off + q * 4, none⟩ (.int .i64 kq)).setCell ⟨b, off + q * 4 + 1, none⟩ (.int .i64 ((kq + 1 : Nat) : Int)) := ⟨_, rfl⟩
      rw [← hwa] at h2 w2
      have HG2 : Hid (OwnFr own B wa (.slice (some ⟨b, off, none⟩) fs.length cap) (gs.set q ⟨kq, ((kq + 1 : Nat) : Int), fs[q].locals, fs[q].stack⟩) X Y) := h2
      have HW2 : Hid (Wrote B (fun b j => FrTag (own b j)) w wa) := HW.out.trans ((w1.mono (fun _ _ h => .inl h)).trans (w2.mono (fun _ _ h => .inl h)))
      obtain ⟨b', off', cap', e, hB2, hlt2, d0, d1, d2, d3, -⟩ := h2.at q (by simpa using hqg')
      simp only [Value.slice.injEq, Option.some.injEq, Addr.mk.injEq, and_true] at e
      obtain ⟨⟨rfl, rfl⟩, -, rfl⟩ := e
      have hloc := (h2.loc q (by simpa using hqg'))
      simp only [List.getElem_set_self] at hloc
      obtain ⟨Ax, cx, hxf⟩ := hloc.1.form
      have hbq := Hbig.out q hql
      have HL : Hid (IRow B wa (X q) fs[q].locals ∧ Room own B wa (X q) 1 (.loc q)) := hloc
      have Hq : Hid (gs[q] = fs[q]) := hgq
      rw [hxf] at c2 d2
      have Hwa : Hid (wa = (wr.setCell ⟨b, off + q * 4, none⟩ (.int .i64 kq)).setCell ⟨b, off + q * 4 + 1, none⟩ (.int .i64 ((kq + 1 : Nat) : Int))) := hwa
      have Hxf : Hid (X q = .slice Ax fs[q].locals.length cx) := hxf
      clear h1 w1 h2 w2 hgq hfz hloc hwa hkq hxf d0 d1 hB2 hlt2
      go_wp2_with fail
      rw [show ((kq : Int) + 1) = ((kq + 1 : Nat) : Int) by omega, show (((kq + 1 : Nat) : Int) + 1) = ((kq + 2 : Nat) : Int) by omega, ← Hwa.out, ← Hxf.out]
      refine (markSpan (X q) fs[q].locals (kq + 2) (.loc q) wa HL.out.1 HL.out.2 hbq.1 (by omega)).mono ?_
      rintro e w3 ⟨rfl, hw3, hl3⟩
      have hqs : q < (gs.set q ⟨kq, ((kq + 1 : Nat) : Int), fs[q].locals, fs[q].stack⟩).length := by simpa using hqg'
      have h3 := HG2.out.setLoc q hqs hw3 _ hl3
      simp only [List.set_set, List.getElem_set_self] at h3
      obtain ⟨ml, hml⟩ : ∃ ml, ml = marks fs[q].locals.length (kq + 2) := ⟨_, rfl⟩
      rw [← hml] at h3
      have HG3 : Hid (OwnFr own B w3 (.slice (some ⟨b, off, none⟩) fs.length cap) (gs.set q ⟨kq, ((kq + 1 : Nat) : Int), ml, fs[q].stack⟩) X Y) := h3
      have HW3 : Hid (Wrote B (fun b j => FrTag (own b j)) w w3) := HW2.out.trans (hw3.mono (fun _ _ h => .inr ⟨q, .inl h⟩))
      obtain ⟨b', off', cap', e, hB2, hlt2, -, -, d2', d3', -⟩ := h3.at q (by simpa using hqg')
      simp only [Value.slice.injEq, Option.some.injEq, Addr.mk.injEq, and_true] at e
      obtain ⟨⟨rfl, rfl⟩, -, rfl⟩ := e
      have hstk := (h3.stk q (by simpa using hqg'))
      simp only [List.getElem_set_self] at hstk
      obtain ⟨Ay, cy, hyf⟩ := hstk.1.form
      have HS : Hid (IRow B w3 (Y q) fs[q].stack ∧ Room own B w3 (Y q) 1 (.stk q)) := hstk
      have Hyf : Hid (Y q = .slice Ay fs[q].stack.length cy) := hyf
      have Hml : Hid (ml = marks fs[q].locals.length (kq + 2)) := hml
      rw [hyf] at d3'
      obtain ⟨k3, hk3⟩ : ∃ k3, k3 = kq + 2 + fs[q].locals.length := ⟨_, rfl⟩
      have Hk3 : Hid (k3 = kq + 2 + fs[q].locals.length) := hk3
      have hk39 : k3 ≤ 200000000 := by omega
      rw [← hk3]
      clear hw3 hl3 h3 hqs hstk hyf hml hk3 c0 c1 c2 c3 d2 d3 f0 f1 hlt
      go_wp2_with fail
      rw [← Hyf.out]
      refine (markSpan (Y q) fs[q].stack k3 (.stk q) w3 HS.out.1 HS.out.2 hbq.2 (by omega)).mono ?_
      rintro e w4 ⟨rfl, hw4, hl4⟩
      have hqs : q < (gs.set q ⟨kq, ((kq + 1 : Nat) : Int), ml, fs[q].stack⟩).length := by simpa using hqg'
      have h4 := HG3.out.setStk q hqs hw4 _ hl4
      simp only [List.set_set, List.getElem_set_self] at h4
      have HG4 : Hid (OwnFr own B w4 (.slice (some ⟨b, off, none⟩) fs.length cap) (gs.set q ⟨kq, ((kq + 1 : Nat) : Int), ml, marks fs[q].stack.length k3⟩) X Y) := h4
      have HW4 : Hid (Wrote B (fun b j => FrTag (own b j)) w w4) := HW3.out.trans (hw4.mono (fun _ _ h => .inr ⟨q, .inr h⟩))
      obtain ⟨k4, hk4⟩ : ∃ k4, k4 = k3 + fs[q].stack.length := ⟨_, rfl⟩
      have Hk4 : Hid (k4 = k + cntF (fs.take (q + 1))) := by show k4 = _; rw [hk4, Hk3.out, Hkq.out, cntF_succ fs q hql]; unfold FrM.bulk; omega
      rw [← hk4]
      clear hw4 hl4 h4 hqs hk4 d2' d3'
      go_wp2_with fail
      go_roundg (gk - 1)
      case measure => omega
      case rel =>
        refine ⟨q + 1, by omega, by go_num, by rw [Hk4.out], by omega, HW4.out, _, by simpa using Hgl.out, HG4.out, fun i hi hqi => ?_, fun i hi hqi => ?_⟩
        · rw [List.getElem_set, if_neg (by omega)]; exact Hsame.out i hi (by omega)
        · rw [List.getElem_set]
          split
          · rename_i e
            subst e
            rw [markF_get fs k q hi, Hml.out, Hk3.out, ← Hkq.out]
          · exact Hdone.out i hi (by omega)
    · have hqe : q = fs.length := by omega
      subst hqe
      rw [List.take_length] at hkq
      subst hkq
      have hgm : gs = markF fs k := List.ext_getElem (by rw [hgl, markF_length]) fun i h1 h2 => Hdone.out i (by omega) (by omega)
      subst hgm
      go_wp2_with fail
      go_ret
      exact ⟨rfl, HG.out, HW.out⟩
end Go.Proofs.YtnknnncehcofnaaGreatDoor
namespace Go.Proofs.YtnknnncehcofnaaGreatDoor
open Go.RowKit

set_option maxRecDepth 100000 in
set_option maxHeartbeats 1600000 in
theorem heldFrames {B : Nat} (x : Value) (fs : List FrM) (k : Nat) (w : World) (hf : FrRow B w x (markF fs k)) (hk : k + cntF fs ≤ 100000000) (hlen : fs.length ≤ 1048576) (hbig : ∀ i (h : i < fs.length), fs[i].locals.length ≤ 1048576 ∧ fs[i].stack.length ≤ 1048576) :
    Calls Tryz.prog 72 #[x, .int .i64 k] w fun e w' => e = .returned (.int .i64 (k + cntF fs : Nat)) ∧ w' = w := by
  have HF : Hid (FrRow B w x (markF fs k)) := hf
  have Hbig : Hid (∀ i (h : i < fs.length), fs[i].locals.length ≤ 1048576 ∧ fs[i].stack.length ≤ 1048576) := hbig
  obtain ⟨A, cap, rfl⟩ := hf.form
  rw [markF_length] at HF ⊢
  clear hf hbig
  go_enter Tryz.func72, Tryz.ntmps72
  go_wp2
  go_loopg [1, 5] (fs.length) (fun g y i wr => ∃ q : Nat, q ≤ fs.length ∧ i = .int .i64 q ∧ y = .int .i64 (k + cntF (fs.take q) : Nat) ∧ fs.length ≤ q + g ∧ wr = w)
  case atStart => exact ⟨0, Nat.zero_le _, rfl, by simp [cntF], by omega, rfl⟩
  case round =>
    obtain ⟨q, hq, rfl, rfl, hqg, hw⟩ := hrel
    subst hw
    have hpart := cntF_part fs q
    obtain ⟨kq, hkq⟩ : ∃ kq, kq = k + cntF (fs.take q) := ⟨_, rfl⟩
    rw [← hkq]
    have hkq9 : kq ≤ 100000000 := by omega
    have Hkq : Hid (kq = k + cntF (fs.take q)) := hkq
    clear hpart
    by_cases hql : q < fs.length
    · have hqm : q < (markF fs k).length := by rw [markF_length]; exact hql
      obtain ⟨b, off, x', y', rfl, hlt, c0, c1, c2, c3, hx, hy⟩ := HF.out.at q hqm
      rw [markF_get fs k q hql, ← hkq] at c0 c1 hx hy
      dsimp only at c0 c1 hx hy
      have hbq := Hbig.out q hql
      obtain ⟨Ax, cx, rfl⟩ := hx.form
      obtain ⟨Ay, cy, rfl⟩ := hy.form
      have HX : Hid (IRow B wr (.slice Ax (marks fs[q].locals.length (kq + 2)).length cx) (marks fs[q].locals.length (kq + 2))) := hx
      have HY : Hid (IRow B wr (.slice Ay (marks fs[q].stack.length (kq + 2 + fs[q].locals.length)).length cy) (marks fs[q].stack.length (kq + 2 + fs[q].locals.length))) := hy
      rw [marks_length] at c2 c3 HX HY
      have c1' : wr.cell? ⟨b, off + q * 4 + 1, none⟩ = some (.int .i64 ((kq : Int) + 1)) := by rw [c1]; simp
      clear hx hy hkq hqm c1
      go_wp2_with fail
      rw [show ((kq : Int) + 1 + 1) = ((kq + 2 : Nat) : Int) by omega]
      refine (heldSpan _ fs[q].locals.length (kq + 2) wr hbq.1 (by omega) HX.out).mono ?_
      rintro e w3 ⟨rfl, hw3⟩
      subst w3
      obtain ⟨k3, hk3⟩ : ∃ k3, k3 = kq + 2 + fs[q].locals.length := ⟨_, rfl⟩
      have Hk3 : Hid (k3 = kq + 2 + fs[q].locals.length) := hk3
      have hk39 : k3 ≤ 200000000 := by omega
      rw [← hk3] at HY ⊢
      clear hk3
      go_wp2_with fail
      refine (heldSpan _ fs[q].stack.length k3 wr hbq.2 (by omega) HY.out).mono ?_
      rintro e w3 ⟨rfl, hw3⟩
      subst w3
      obtain ⟨k4, hk4⟩ : ∃ k4, k4 = k3 + fs[q].stack.length := ⟨_, rfl⟩
      have Hk4 : Hid (k4 = k + cntF (fs.take (q + 1))) := by show k4 = _; rw [hk4, Hk3.out, Hkq.out, cntF_succ fs q hql]; unfold FrM.bulk; omega
      rw [← hk4]
      clear hk4
      go_wp2_with fail
      go_roundg (gk - 1)
      case measure => omega
      case rel => exact ⟨q + 1, by omega, by go_num, by rw [Hk4.out], by omega, rfl⟩
    · have hqe : q = fs.length := by omega
      subst hqe
      rw [List.take_length] at hkq
      subst hkq
      go_wp2_with fail
      go_ret
      exact ⟨rfl, rfl⟩

/-- arrays of the call's own; Z: their slices -/
structure OwnAr (own : Nat → Nat → Tag) (B : Nat) (w : World) (y : Value) (hs : List (List Int)) (Z : Nat → Value) : Prop where
  len : hs.length ≤ 1048576
  form : ∃ A cap, y = .slice A hs.length cap
  room : Room own B w y 1 .hp
  head : ∀ i (_ : i < hs.length), ∃ b off cap, y = .slice (some ⟨b, off, none⟩) hs.length cap ∧ w.cell? ⟨b, off + i, none⟩ = some (Z i)
  arr : ∀ i (h : i < hs.length), IRow B w (Z i) hs[i] ∧ Room own B w (Z i) 1 (.arr i)

theorem OwnAr.at {own : Nat → Nat → Tag} {B : Nat} {w : World} {y : Value} {hs : List (List Int)} {Z : Nat → Value} (h : OwnAr own B w y hs Z) (i : Nat) (hi : i < hs.length) :
    ∃ b off cap, y = .slice (some ⟨b, off, none⟩) hs.length cap ∧ B ≤ b ∧ b < w.heap.size ∧ w.cell? ⟨b, off + i, none⟩ = some (Z i) ∧ own b (off + i) = .hp := by
  obtain ⟨b, off, cap, rfl, h1⟩ := h.head i hi
  obtain ⟨A', n', cap', he, hn', hr⟩ := h.room
  simp only [Value.slice.injEq] at he
  obtain ⟨rfl, rfl, rfl⟩ := he
  obtain ⟨b', off', e, k1, k2, _, _, k5⟩ := hr i (by omega)
  simp only [Option.some.injEq, Addr.mk.injEq, and_true] at e
  obtain ⟨rfl, rfl⟩ := e
  exact ⟨b, off, cap, rfl, k1, k2, h1, k5⟩

theorem OwnAr.row {own : Nat → Nat → Tag} {B : Nat} {w : World} {y : Value} {hs : List (List Int)} {Z : Nat → Value} (h : OwnAr own B w y hs Z) : ArrRow B w y hs := by
  obtain ⟨A, cap, rfl⟩ := h.form
  refine ⟨A, cap, rfl, by have := h.len; omega, fun i hi => ?_⟩
  obtain ⟨b, off, cap', e, h1, h2, h3, _⟩ := h.at i hi
  simp only [Value.slice.injEq] at e
  obtain ⟨rfl, _, _⟩ := e
  exact ⟨b, off, Z i, rfl, h1, h2, h3, (h.arr i hi).1⟩

theorem OwnAr.below {own : Nat → Nat → Tag} {B : Nat} {w w' : World} {y : Value} {hs : List (List Int)} {Z : Nat → Value} (h : OwnAr own B w y hs Z) (hb : Below w.heap.size w w') : OwnAr own B w' y hs Z := by
  refine ⟨h.len, h.form, h.room.below hb, fun i hi => ?_, fun i hi => ⟨(h.arr i hi).1.below hb, (h.arr i hi).2.below hb⟩⟩
  obtain ⟨b, off, cap, e, _, h2, h3, _⟩ := h.at i hi
  exact ⟨b, off, cap, e, by rw [hb.cell (by exact h2)]; exact h3⟩

theorem OwnAr.wrote {own : Nat → Nat → Tag} {B B' : Nat} {w w' : World} {y : Value} {hs : List (List Int)} {Z : Nat → Value} {S : Nat → Nat → Prop} (h : OwnAr own B w y hs Z) (hw : Wrote B' S w w') (hS : ∀ b j, S b j → own b j ≠ .hp ∧ ∀ i, own b j ≠ .arr i) : OwnAr own B w' y hs Z := by
  refine ⟨h.len, h.form, h.room.wrote hw, fun i hi => ?_, fun i hi => ⟨(h.arr i hi).1.wrote (h.arr i hi).2 hw (fun b j hs => (hS b j hs).2 i), (h.arr i hi).2.wrote hw⟩⟩
  obtain ⟨b, off, cap, e, _, h2, h3, h4⟩ := h.at i hi
  exact ⟨b, off, cap, e, by rw [hw.cell _ _ (fun hs => (hS _ _ hs).1 h4)]; exact h3⟩

theorem OwnAr.setArr {own : Nat → Nat → Tag} {B B' : Nat} {w w' : World} {y : Value} {hs : List (List Int)} {Z : Nat → Value} (h : OwnAr own B w y hs Z) (q : Nat) (_hq : q < hs.length) (hw : Wrote B' (fun b j => own b j = .arr q) w w') (l : List Int) (hl : IRow B w' (Z q) l) : OwnAr own B w' y (hs.set q l) Z := by
  refine ⟨by simpa using h.len, by simpa using h.form, h.room.wrote hw, fun i hi => ?_, fun i hi => ?_⟩
  · have hi' : i < hs.length := by simpa using hi
    obtain ⟨b, off, cap, e, _, h2, h3, h4⟩ := h.at i hi'
    exact ⟨b, off, cap, by simpa using e, by rw [hw.cell _ _ (fun hs => by rw [h4] at hs; cases hs)]; exact h3⟩
  · have hi' : i < hs.length := by simpa using hi
    refine ⟨?_, (h.arr i hi').2.wrote hw⟩
    rw [List.getElem_set]
    split
    · rename_i e; subst e; exact hl
    · rename_i e; exact (h.arr i hi').1.wrote (h.arr i hi').2 hw (fun b j hs => by rw [hs]; intro k; cases k; exact e rfl)

def cntH (hs : List (List Int)) : Nat := (hs.map List.length).sum
def markH : List (List Int) → Nat → List (List Int)
  | [], _ => []
  | a :: hs, k => marks a.length k :: markH hs (k + a.length)

theorem markH_length (hs : List (List Int)) (k : Nat) : (markH hs k).length = hs.length := by
  induction hs generalizing k with
  | nil => rfl
  | cons f fs ih => simp [markH, ih]

theorem markH_get (hs : List (List Int)) (k i : Nat) (h : i < hs.length) (h' : i < (markH hs k).length) : (markH hs k)[i] = marks hs[i].length (k + cntH (hs.take i)) := by
  induction hs generalizing k i with
  | nil => simp at h
  | cons f fs ih =>
    cases i with
    | zero => simp [markH, cntH]
    | succ i =>
      have := ih (k + f.length) i (by simpa using h) (by simpa [markH] using h')
      simp only [markH, List.getElem_cons_succ, List.take_succ_cons]
      rw [this]
      have e : k + f.length + cntH (fs.take i) = k + cntH (f :: fs.take i) := by simp [cntH]; omega
      rw [e]
theorem cntH_succ (hs : List (List Int)) (q : Nat) (h : q < hs.length) : cntH (hs.take (q + 1)) = cntH (hs.take q) + hs[q].length := sum_succ List.length hs q h
theorem cntH_part (hs : List (List Int)) (q : Nat) : cntH (hs.take q) ≤ cntH hs := sum_part List.length hs q

def ArTag (t : Tag) : Prop := t = .hp ∨ ∃ i, t = .arr i

set_option maxRecDepth 100000 in
set_option maxHeartbeats 1600000 in
theorem markArrs {own : Nat → Nat → Tag} {B : Nat} (y : Value) (hs : List (List Int)) (Z : Nat → Value) (k : Nat) (w : World) (hf : OwnAr own B w y hs Z) (hk : k + cntH hs ≤ 100000000) (hbig : ∀ i (h : i < hs.length), hs[i].length ≤ 1048576) :
    Calls Tryz.prog 71 #[y, .int .i64 k] w fun e w' => e = .returned (.int .i64 (k + cntH hs : Nat)) ∧ OwnAr own B w' y (markH hs k) Z ∧ Wrote B (fun b j => ArTag (own b j)) w w' := by
  have HF : Hid (OwnAr own B w y hs Z) := hf
  have Hbig : Hid (∀ i (h : i < hs.length), hs[i].length ≤ 1048576) := hbig
  have hlen := hf.len
  obtain ⟨A, cap, rfl⟩ := hf.form
  clear hf hbig
  go_enter Tryz.func71, Tryz.ntmps71
  go_wp2
  go_loopg [1, 5] (hs.length) (fun g y i wr => ∃ q : Nat, q ≤ hs.length ∧ i = .int .i64 q ∧ y = .int .i64 (k + cntH (hs.take q) : Nat) ∧ hs.length ≤ q + g ∧ Wrote B (fun b j => ArTag (own b j)) w wr ∧ ∃ gs : List (List Int), ∃ hgl : gs.length = hs.length, OwnAr own B wr (.slice A hs.length cap) gs Z ∧ (∀ i (h : i < hs.length), q ≤ i → gs[i]'(by omega) = hs[i]) ∧ (∀ i (h : i < hs.length), i < q → gs[i]'(by omega) = (markH hs k)[i]'(by rw [markH_length]; exact h)))
  case atStart => exact ⟨0, Nat.zero_le _, rfl, by simp [cntH], by omega, Wrote.refl _ _ _, hs, rfl, HF.out, fun _ _ _ => rfl, fun _ _ h => by omega⟩
  case round =>
    obtain ⟨q, hq, rfl, rfl, hqg, hw, gs, hgl, hg, hsame, hdone⟩ := hrel
    have HW : Hid (Wrote B (fun b j => ArTag (own b j)) w wr) := hw
    have HG : Hid (OwnAr own B wr (.slice A hs.length cap) gs Z) := hg
    have Hsame : Hid (∀ i (h : i < hs.length), q ≤ i → gs[i]'(by omega) = hs[i]) := hsame
    have Hdone : Hid (∀ i (h : i < hs.length), i < q → gs[i]'(by omega) = (markH hs k)[i]'(by rw [markH_length]; exact h)) := hdone
    have hpart := cntH_part hs q
    obtain ⟨kq, hkq⟩ : ∃ kq, kq = k + cntH (hs.take q) := ⟨_, rfl⟩
    rw [← hkq]
    have hkq9 : kq ≤ 100000000 := by omega
    have Hkq : Hid (kq = k + cntH (hs.take q)) := hkq
    have Hgl : Hid (gs.length = hs.length) := hgl
    clear hw hg hsame hdone hpart
    by_cases hql : q < hs.length
    · have hqg' : q < gs.length := by omega
      obtain ⟨b, off, cap', e, hB, hlt, c0, -⟩ := HG.out.at q hqg'
      simp only [Value.slice.injEq] at e
      obtain ⟨rfl, -, rfl⟩ := e
      have harr := HG.out.arr q hqg'
      have hgq : gs[q] = hs[q] := Hsame.out q hql (Nat.le_refl _)
      rw [hgq] at harr
      obtain ⟨Az, cz, hzf⟩ := harr.1.form
      have HA : Hid (IRow B wr (Z q) hs[q] ∧ Room own B wr (Z q) 1 (.arr q)) := harr
      have Hzf : Hid (Z q = .slice Az hs[q].length cz) := hzf
      have hbq := Hbig.out q hql
      rw [hzf] at c0
      clear harr hgq hzf hkq
      go_wp2_with fail
      rw [← Hzf.out]
      refine (markSpan (Z q) hs[q] kq (.arr q) wr HA.out.1 HA.out.2 hbq (by omega)).mono ?_
      rintro e w3 ⟨rfl, hw3, hl3⟩
      have h3 := HG.out.setArr q hqg' hw3 _ hl3
      have HG3 : Hid (OwnAr own B w3 (.slice (some ⟨b, off, none⟩) hs.length cap) (gs.set q (marks hs[q].length kq)) Z) := h3
      have HW3 : Hid (Wrote B (fun b j => ArTag (own b j)) w w3) := HW.out.trans (hw3.mono (fun _ _ h => .inr ⟨q, h⟩))
      obtain ⟨k4, hk4⟩ : ∃ k4, k4 = kq + hs[q].length := ⟨_, rfl⟩
      have Hk4 : Hid (k4 = k + cntH (hs.take (q + 1))) := by show k4 = _; rw [hk4, Hkq.out, cntH_succ hs q hql]; omega
      rw [← hk4]
      clear hw3 hl3 h3 hk4 c0
      go_wp2_with fail
      go_roundg (gk - 1)
      case measure => omega
      case rel =>
        refine ⟨q + 1, by omega, by go_num, by rw [Hk4.out], by omega, HW3.out, _, by simpa using Hgl.out, HG3.out, fun i hi hqi => ?_, fun i hi hqi => ?_⟩
        · rw [List.getElem_set, if_neg (by omega)]; exact Hsame.out i hi (by omega)
        · rw [List.getElem_set]
          split
          · rename_i e
            subst e
            rw [markH_get hs k q hi, ← Hkq.out]
          · exact Hdone.out i hi (by omega)
    · have hqe : q = hs.length := by omega
      subst hqe
      rw [List.take_length] at hkq
      subst hkq
      have hgm : gs = markH hs k := List.ext_getElem (by rw [hgl, markH_length]) fun i h1 h2 => Hdone.out i (by omega) (by omega)
      subst hgm
      go_wp2_with fail
      go_ret
      exact ⟨rfl, HG.out, HW.out⟩

set_option maxRecDepth 100000 in
set_option maxHeartbeats 1600000 in
theorem heldArrs {B : Nat} (y : Value) (hs : List (List Int)) (k : Nat) (w : World) (hf : ArrRow B w y (markH hs k)) (hk : k + cntH hs ≤ 100000000) (hlen : hs.length ≤ 1048576) (hbig : ∀ i (h : i < hs.length), hs[i].length ≤ 1048576) :
    Calls Tryz.prog 73 #[y, .int .i64 k] w fun e w' => e = .returned (.int .i64 (k + cntH hs : Nat)) ∧ w' = w := by
  have HF : Hid (ArrRow B w y (markH hs k)) := hf
  have Hbig : Hid (∀ i (h : i < hs.length), hs[i].length ≤ 1048576) := hbig
  obtain ⟨A, cap, rfl⟩ := hf.form
  rw [markH_length] at HF ⊢
  clear hf hbig
  go_enter Tryz.func73, Tryz.ntmps73
  go_wp2
  go_loopg [1, 5] (hs.length) (fun g y i wr => ∃ q : Nat, q ≤ hs.length ∧ i = .int .i64 q ∧ y = .int .i64 (k + cntH (hs.take q) : Nat) ∧ hs.length ≤ q + g ∧ wr = w)
  case atStart => exact ⟨0, Nat.zero_le _, rfl, by simp [cntH], by omega, rfl⟩
  case round =>
    obtain ⟨q, hq, rfl, rfl, hqg, hw⟩ := hrel
    subst hw
    have hpart := cntH_part hs q
    obtain ⟨kq, hkq⟩ : ∃ kq, kq = k + cntH (hs.take q) := ⟨_, rfl⟩
    rw [← hkq]
    have hkq9 : kq ≤ 100000000 := by omega
    have Hkq : Hid (kq = k + cntH (hs.take q)) := hkq
    clear hpart
    by_cases hql : q < hs.length
    · have hqm : q < (markH hs k).length := by rw [markH_length]; exact hql
      obtain ⟨b, off, x', rfl, hlt, c0, hx⟩ := HF.out.at q hqm
      rw [markH_get hs k q hql, ← hkq] at hx
      have hbq := Hbig.out q hql
      obtain ⟨Ax, cx, rfl⟩ := hx.form
      have HX : Hid (IRow B wr (.slice Ax (marks hs[q].length kq).length cx) (marks hs[q].length kq)) := hx
      rw [marks_length] at c0 HX
      clear hx hkq hqm
      go_wp2_with fail
      refine (heldSpan _ hs[q].length kq wr hbq (by omega) HX.out).mono ?_
      rintro e w3 ⟨rfl, hw3⟩
      subst w3
      obtain ⟨k4, hk4⟩ : ∃ k4, k4 = kq + hs[q].length := ⟨_, rfl⟩
      have Hk4 : Hid (k4 = k + cntH (hs.take (q + 1))) := by show k4 = _; rw [hk4, Hkq.out, cntH_succ hs q hql]; omega
      rw [← hk4]
      clear hk4
      go_wp2_with fail
      go_roundg (gk - 1)
      case measure => omega
      case rel => exact ⟨q + 1, by omega, by go_num, by rw [Hk4.out], by omega, rfl⟩
    · have hqe : q = hs.length := by omega
      subst hqe
      rw [List.take_length] at hkq
      subst hkq
      go_wp2_with fail
      go_ret
      exact ⟨rfl, rfl⟩
end Go.Proofs.YtnknnncehcofnaaGreatDoor
namespace Go.Proofs.YtnknnncehcofnaaGreatDoor
open Go.RowKit

theorem frTag_no {t : Tag} (h : FrTag t) : t ≠ .no := by intro e; subst e; rcases h with h | ⟨q, h | h⟩ <;> cases h
theorem frTag_hp {t : Tag} (h : FrTag t) : t ≠ .hp := by intro e; subst e; rcases h with h | ⟨q, h | h⟩ <;> cases h
theorem frTag_arr {t : Tag} (h : FrTag t) (i : Nat) : t ≠ .arr i := by intro e; subst e; rcases h with h | ⟨q, h | h⟩ <;> cases h
theorem frTag_out {t : Tag} (h : FrTag t) : t ≠ .out := by intro e; subst e; rcases h with h | ⟨q, h | h⟩ <;> cases h
theorem arTag_no {t : Tag} (h : ArTag t) : t ≠ .no := by intro e; subst e; rcases h with h | ⟨q, h⟩ <;> cases h
theorem arTag_fr {t : Tag} (h : ArTag t) : t ≠ .fr := by intro e; subst e; rcases h with h | ⟨q, h⟩ <;> cases h
theorem arTag_loc {t : Tag} (h : ArTag t) (i : Nat) : t ≠ .loc i := by intro e; subst e; rcases h with h | ⟨q, h⟩ <;> cases h
theorem arTag_stk {t : Tag} (h : ArTag t) (i : Nat) : t ≠ .stk i := by intro e; subst e; rcases h with h | ⟨q, h⟩ <;> cases h
theorem arTag_out {t : Tag} (h : ArTag t) : t ≠ .out := by intro e; subst e; rcases h with h | ⟨q, h⟩ <;> cases h

/-- a state of the call's own -/
structure OwnSt (own : Nat → Nat → Tag) (B : Nat) (w : World) (x y z : Value) (s : StM) (X Y Z : Nat → Value) : Prop where
  fr : OwnFr own B w x s.frames X Y
  hp : OwnAr own B w y s.heap Z
  row : IRow B w z s.out
  room : Room own B w z 1 .out

theorem OwnSt.stRow {own : Nat → Nat → Tag} {B : Nat} {w : World} {x y z : Value} {s : StM} {X Y Z : Nat → Value} (h : OwnSt own B w x y z s X Y Z) : StRow B w x y z s := ⟨h.fr.row, h.hp.row, h.row⟩
theorem OwnSt.below {own : Nat → Nat → Tag} {B : Nat} {w w' : World} {x y z : Value} {s : StM} {X Y Z : Nat → Value} (h : OwnSt own B w x y z s X Y Z) (hb : Below w.heap.size w w') : OwnSt own B w' x y z s X Y Z := ⟨h.fr.below hb, h.hp.below hb, h.row.below hb, h.room.below hb⟩

/-- what lies behind U belongs to none of its lists -/
def cutOwn (U : Nat) (own : Nat → Nat → Tag) : Nat → Nat → Tag := fun b j => if b < U then own b j else .no

theorem Room.cut {own : Nat → Nat → Tag} {B size : Nat} {w : World} {v : Value} {t : Tag} (h : Room own B w v size t) : Room (cutOwn w.heap.size own) B w v size t := by
  obtain ⟨A, n, cap, rfl, hn, hr⟩ := h
  refine ⟨A, n, cap, rfl, hn, fun j hj => ?_⟩
  obtain ⟨b, off, h1, h2, h3, h4, h5, h6⟩ := hr j hj
  exact ⟨b, off, h1, h2, h3, h4, h5, by unfold cutOwn; rw [if_pos h3]; exact h6⟩

theorem OwnSt.cut {own : Nat → Nat → Tag} {B : Nat} {w : World} {x y z : Value} {s : StM} {X Y Z : Nat → Value} (h : OwnSt own B w x y z s X Y Z) : OwnSt (cutOwn w.heap.size own) B w x y z s X Y Z :=
  ⟨⟨h.fr.len, h.fr.form, h.fr.room.cut, h.fr.head, fun i hi => ⟨(h.fr.loc i hi).1, (h.fr.loc i hi).2.cut⟩, fun i hi => ⟨(h.fr.stk i hi).1, (h.fr.stk i hi).2.cut⟩⟩,
    ⟨h.hp.len, h.hp.form, h.hp.room.cut, h.hp.head, fun i hi => ⟨(h.hp.arr i hi).1, (h.hp.arr i hi).2.cut⟩⟩, h.row, h.room.cut⟩

def cntS (s : StM) : Nat := cntF s.frames + cntH s.heap + s.out.length
def markS (s : StM) (k : Nat) : StM := ⟨markF s.frames k, markH s.heap (k + cntF s.frames), marks s.out.length (k + cntF s.frames + cntH s.heap), s.fuel, s.done, s.value, s.trap⟩

/-- no list of it is too long to be marked -/
def Small (s : StM) : Prop := (∀ i (h : i < s.frames.length), s.frames[i].locals.length ≤ 1048576 ∧ s.frames[i].stack.length ≤ 1048576) ∧ (∀ i (h : i < s.heap.length), s.heap[i].length ≤ 1048576) ∧ s.out.length ≤ 1048576

/-- what belongs to none of its lists stays -/
structure Spared (own : Nat → Nat → Tag) (B : Nat) (w w' : World) : Prop where
  below : Below B w w'
  cell : ∀ b j, b < w.heap.size → own b j = .no → w'.cell? ⟨b, j, none⟩ = w.cell? ⟨b, j, none⟩

theorem Spared.wrote {own : Nat → Nat → Tag} {B : Nat} {a b c : World} {S : Nat → Nat → Prop} (h : Spared own B a b) (hw : Wrote B S b c) (hS : ∀ i j, S i j → own i j ≠ .no) : Spared own B a c :=
  ⟨h.below.trans hw.below, fun i j hi ho => (hw.cell i j (fun hs => hS i j hs ho)).trans (h.cell i j hi ho)⟩

theorem Spared.box {own : Nat → Nat → Tag} {B U : Nat} {w w' : World} {b : Nat} {C : Array Value} (h : Spared (cutOwn U own) B w w') (hb : U ≤ b) (hB : Box w b C) : Box w' b C :=
  ⟨Nat.lt_of_lt_of_le hB.1 h.below.size, fun j => by rw [h.cell b j hB.1 (by unfold cutOwn; rw [if_neg (by omega)])]; exact hB.2 j⟩

set_option maxRecDepth 100000 in
set_option maxHeartbeats 1600000 in
theorem markState {own : Nat → Nat → Tag} {B : Nat} (x y z : Value) (s : StM) (X Y Z : Nat → Value) (k : Nat) (w : World) (hs : OwnSt own B w x y z s X Y Z) (hB : B ≤ w.heap.size) (hno : ∀ b j, w.heap.size ≤ b → own b j = .no) (hk : k + cntS s ≤ 100000000) (hsm : Small s) :
    Calls Tryz.prog 22 #[stV x y z s, .int .i64 k] w fun e w' => e = .returned (.int .i64 (k + cntS s : Nat)) ∧ OwnSt own B w' x y z (markS s k) X Y Z ∧ Spared own B w w' := by
  have HS : Hid (OwnSt own B w x y z s X Y Z) := hs
  have Hsm : Hid (Small s) := hsm
  have Hno : Hid (∀ b j, w.heap.size ≤ b → own b j = .no) := hno
  obtain ⟨A1, a1, rfl⟩ := hs.fr.form
  obtain ⟨A2, a2, rfl⟩ := hs.hp.form
  obtain ⟨A3, a3, rfl⟩ := hs.row.form
  clear hs hsm hno
  unfold stV
  unfold cntS at hk
  obtain ⟨wa, hwa⟩ : ∃ wa, wa = w.alloc (.cells #[.slice A1 s.frames.length a1, .slice A2 s.heap.length a2, .slice A3 s.out.length a3, .int .i64 s.fuel, .bool s.done, .int .i64 s.value, .int .i64 s.trap] 45) := ⟨_, rfl⟩
  have hal : Below w.heap.size w wa := by rw [hwa]; exact (Below.refl _ _).alloc (Nat.le_refl _) _
  have X0 : Hid (StBox wa w.heap.size (.slice A1 s.frames.length a1) (.slice A2 s.heap.length a2) (.slice A3 s.out.length a3) s) := by rw [hwa]; exact stBox_new w _ _ _ s 45
  have HSa : Hid (OwnSt own B wa (.slice A1 s.frames.length a1) (.slice A2 s.heap.length a2) (.slice A3 s.out.length a3) s X Y Z) := HS.out.below hal
  have Sa : Hid (Spared own B w wa) := ⟨hal.mono hB, fun b j hb _ => hal.cell (by exact hb)⟩
  have HN : Hid (∀ W (S : Nat → Nat → Prop), Wrote B S wa W → (∀ i j, S i j → own i j ≠ .no) → StBox W w.heap.size (.slice A1 s.frames.length a1) (.slice A2 s.heap.length a2) (.slice A3 s.out.length a3) s) := fun W S hW hS => ⟨by rw [hW.size]; exact X0.out.1, fun j => by rw [hW.cell _ _ (fun h => hS _ _ h (Hno.out _ _ (Nat.le_refl _)))]; exact X0.out.2 j⟩
  clear hal
  go_enter Tryz.func22, Tryz.ntmps22
  go_wp2_with fail
  rw [← hwa]
  clear hwa
  refine (markFrames _ s.frames X Y k wa HSa.out.fr (by omega) Hsm.out.1).mono ?_
  rintro e w1 ⟨rfl, h1, hw1⟩
  have hfn : ∀ i j, FrTag (own i j) → own i j ≠ .no := fun i j h => frTag_no h
  have HW1 : Hid (Wrote B (fun b j => own b j ≠ .no) wa w1) := hw1.mono hfn
  have H1 : Hid (OwnFr own B w1 (.slice A1 s.frames.length a1) (markF s.frames k) X Y) := h1
  have H2 : Hid (OwnAr own B w1 (.slice A2 s.heap.length a2) s.heap Z) := HSa.out.hp.wrote hw1 (fun b j h => ⟨frTag_hp h, fun i => frTag_arr h i⟩)
  have H3 : Hid (IRow B w1 (.slice A3 s.out.length a3) s.out ∧ Room own B w1 (.slice A3 s.out.length a3) 1 .out) := ⟨HSa.out.row.wrote HSa.out.room hw1 (fun b j h => frTag_out h), HSa.out.room.wrote hw1⟩
  obtain ⟨z0, -, c1, -⟩ := (HN.out w1 _ HW1.out (fun _ _ h => h)).cells
  obtain ⟨k1, hk1⟩ : ∃ k1, k1 = k + cntF s.frames := ⟨_, rfl⟩
  have Hk1 : Hid (k1 = k + cntF s.frames) := hk1
  rw [← hk1]
  clear h1 hw1 hfn
  have hk1' : k1 + cntH s.heap ≤ 100000000 := by omega
  clear hk1
  go_wp2_with fail
  refine (markArrs _ s.heap Z k1 w1 H2.out hk1' Hsm.out.2.1).mono ?_
  rintro e w2 ⟨rfl, h2, hw2⟩
  have han : ∀ i j, ArTag (own i j) → own i j ≠ .no := fun i j h => arTag_no h
  have HW2 : Hid (Wrote B (fun b j => own b j ≠ .no) wa w2) := HW1.out.trans (hw2.mono han)
  have J1 : Hid (OwnFr own B w2 (.slice A1 s.frames.length a1) (markF s.frames k) X Y) := H1.out.wrote hw2 (fun b j h => ⟨arTag_fr h, fun i => ⟨arTag_loc h i, arTag_stk h i⟩⟩)
  have J2 : Hid (OwnAr own B w2 (.slice A2 s.heap.length a2) (markH s.heap k1) Z) := h2
  have J3 : Hid (IRow B w2 (.slice A3 s.out.length a3) s.out ∧ Room own B w2 (.slice A3 s.out.length a3) 1 .out) := ⟨H3.out.1.wrote H3.out.2 hw2 (fun b j h => arTag_out h), H3.out.2.wrote hw2⟩
  clear z0 c1
  obtain ⟨z0, -, -, c2, -⟩ := (HN.out w2 _ HW2.out (fun _ _ h => h)).cells
  obtain ⟨k2, hk2⟩ : ∃ k2, k2 = k1 + cntH s.heap := ⟨_, rfl⟩
  have Hk2 : Hid (k2 = k1 + cntH s.heap) := hk2
  rw [← hk2]
  have hk2' : k2 ≤ 100000000 := by omega
  clear h2 hw2 han hk2 H1 H2 H3
  go_wp2_with fail
  refine (markSpan _ s.out k2 .out w2 J3.out.1 J3.out.2 Hsm.out.2.2 (by omega)).mono ?_
  rintro e w3 ⟨rfl, hw3, h3⟩
  have K1 : Hid (OwnFr own B w3 (.slice A1 s.frames.length a1) (markF s.frames k) X Y) := J1.out.wrote hw3 (fun b j h => ⟨(by rw [h]; intro e; cases e), fun i => ⟨(by rw [h]; intro e; cases e), (by rw [h]; intro e; cases e)⟩⟩)
  have K2 : Hid (OwnAr own B w3 (.slice A2 s.heap.length a2) (markH s.heap k1) Z) := J2.out.wrote hw3 (fun b j h => ⟨(by rw [h]; intro e; cases e), fun i => (by rw [h]; intro e; cases e)⟩)
  have K3 : Hid (IRow B w3 (.slice A3 s.out.length a3) (marks s.out.length k2) ∧ Room own B w3 (.slice A3 s.out.length a3) 1 .out) := ⟨h3, J3.out.2.wrote hw3⟩
  have HW3 : Hid (Wrote B (fun b j => own b j ≠ .no) wa w3) := HW2.out.trans (hw3.mono (fun i j h e => by rw [h] at e; cases e))
  obtain ⟨k3, hk3⟩ : ∃ k3, k3 = k2 + s.out.length := ⟨_, rfl⟩
  have Hk3 : Hid (k3 = k + cntS s) := by show k3 = _; rw [hk3, Hk2.out, Hk1.out]; unfold cntS; omega
  rw [← hk3]
  clear z0 c2 hw3 h3 J1 J2 J3 hk3
  go_wp2_with fail
  go_ret
  refine ⟨by rw [← Hk3.out]; rfl, ⟨K1.out, ?_, ?_, K3.out.2⟩, Sa.out.wrote HW3.out (fun _ _ h => h)⟩
  · rw [show (markS s k).heap = markH s.heap k1 by unfold markS; rw [Hk1.out]]; exact K2.out
  · rw [show (markS s k).out = marks s.out.length k2 by unfold markS; rw [Hk2.out, Hk1.out]]; exact K3.out.1

set_option maxRecDepth 100000 in
set_option maxHeartbeats 1600000 in
theorem heldState {B : Nat} (x y z : Value) (s : StM) (k : Nat) (w : World) (hs : StRow B w x y z (markS s k)) (hk : k + cntS s ≤ 100000000) (hl1 : s.frames.length ≤ 1048576) (hl2 : s.heap.length ≤ 1048576) (hsm : Small s) :
    Calls Tryz.prog 23 #[stV x y z s, .int .i64 k] w fun e w' => e = .returned (.int .i64 (k + cntS s : Nat)) ∧ Below w.heap.size w w' := by
  have HS : Hid (StRow B w x y z (markS s k)) := hs
  have Hsm : Hid (Small s) := hsm
  obtain ⟨A1, a1, rfl⟩ := hs.1.form
  obtain ⟨A2, a2, rfl⟩ := hs.2.1.form
  obtain ⟨A3, a3, rfl⟩ := hs.2.2.form
  clear hs hsm
  rw [show (markS s k).frames.length = s.frames.length by simp [markS, markF_length], show (markS s k).heap.length = s.heap.length by simp [markS, markH_length], show (markS s k).out.length = s.out.length by simp [markS, marks_length]] at HS ⊢
  unfold stV
  unfold cntS at hk
  obtain ⟨wa, hwa⟩ : ∃ wa, wa = w.alloc (.cells #[.slice A1 s.frames.length a1, .slice A2 s.heap.length a2, .slice A3 s.out.length a3, .int .i64 s.fuel, .bool s.done, .int .i64 s.value, .int .i64 s.trap] 45) := ⟨_, rfl⟩
  have hal : Below w.heap.size w wa := by rw [hwa]; exact (Below.refl _ _).alloc (Nat.le_refl _) _
  have Hal : Hid (Below w.heap.size w wa) := hal
  have X0 : StBox wa w.heap.size (.slice A1 s.frames.length a1) (.slice A2 s.heap.length a2) (.slice A3 s.out.length a3) s := by rw [hwa]; exact stBox_new w _ _ _ s 45
  have HSa : Hid (StRow B wa (.slice A1 s.frames.length a1) (.slice A2 s.heap.length a2) (.slice A3 s.out.length a3) (markS s k)) := HS.out.below hal
  obtain ⟨z0, -, c1, c2, -⟩ := X0.cells
  obtain ⟨k1, hk1⟩ : ∃ k1, k1 = k + cntF s.frames := ⟨_, rfl⟩
  obtain ⟨k2, hk2⟩ : ∃ k2, k2 = k1 + cntH s.heap := ⟨_, rfl⟩
  obtain ⟨k3, hk3⟩ : ∃ k3, k3 = k2 + s.out.length := ⟨_, rfl⟩
  have Hk : Hid (k1 = k + cntF s.frames ∧ k2 = k1 + cntH s.heap ∧ k3 = k2 + s.out.length) := ⟨hk1, hk2, hk3⟩
  have Hk3 : Hid (k3 = k + cntS s) := by show k3 = _; rw [hk3, hk2, hk1]; unfold cntS; omega
  have hb3 : k1 ≤ 100000000 ∧ k2 ≤ 100000000 ∧ k3 ≤ 100000000 := by omega
  have hA := HSa.out.2.1
  rw [show (markS s k).heap = markH s.heap k1 by unfold markS; rw [hk1]] at hA
  have hO := HSa.out.2.2
  rw [show (markS s k).out = marks s.out.length k2 by unfold markS; rw [hk2, hk1]] at hO
  have HA : Hid (ArrRow B wa (.slice A2 s.heap.length a2) (markH s.heap k1)) := hA
  have HO : Hid (IRow B wa (.slice A3 s.out.length a3) (marks s.out.length k2)) := hO
  clear hal X0 hk1 hk2 hk3 hA hO
  go_enter Tryz.func23, Tryz.ntmps23
  go_wp2_with fail
  rw [← hwa]
  clear hwa
  refine (heldFrames _ s.frames k wa HSa.out.1 (by have := Hk.out.1; omega) hl1 Hsm.out.1).mono ?_
  rintro e w1 ⟨rfl, hw1⟩
  subst w1
  rw [← Hk.out.1]
  go_wp2_with fail
  refine (heldArrs _ s.heap k1 wa HA.out (by have := Hk.out.2.1; omega) hl2 Hsm.out.2.1).mono ?_
  rintro e w1 ⟨rfl, hw1⟩
  subst w1
  rw [← Hk.out.2.1]
  go_wp2_with fail
  refine (heldSpan _ s.out.length k2 wa Hsm.out.2.2 (by omega) HO.out).mono ?_
  rintro e w1 ⟨rfl, hw1⟩
  subst w1
  rw [← Hk.out.2.2]
  go_wp2_with fail
  go_ret
  exact ⟨by rw [← Hk3.out]; rfl, Hal.out⟩
end Go.Proofs.YtnknnncehcofnaaGreatDoor
