/- spec.l06CopyFrame. A frame, an array, whatever their lists, appended to a machine. -/
import Derived.Test.YtnknnncehcofnaaGreatDoorJ17CopyN
import Derived.Test.YtnknnncehcofnaaGreatDoorMacC
import Derived.Test.YtnknnncehcofnaaGreatDoorJ24MacL
namespace Go.Proofs.YtnknnncehcofnaaGreatDoor
open Go.RowKit

/-- a frame's two lists, each in a block of its own: the one below M, the other from there on -/
def SCopyFTold (f : FrM) (w w' : World) (e : Ending) : Prop :=
  ∃ v u M, e = .returned (.agg #[.int .i64 f.func, .int .i64 f.pc, v, u]) ∧ w.heap.size ≤ M ∧ IRow w.heap.size w' v f.locals ∧ IRow M w' u f.stack ∧
    (∀ own t, (∀ b j, w.heap.size ≤ b → b < M → own b j = t) → Room own w.heap.size w' v 1 t) ∧ (∀ own t, (∀ b j, M ≤ b → own b j = t) → Room own M w' u 1 t) ∧ Below w.heap.size w w'

theorem own_room {B : Nat} {w : World} {v : Value} {xs : List Value} {n : Nat} (h : w.ownsRow B 2 1 v n xs) : ∀ own t, (∀ b j, B ≤ b → b < w.heap.size → own b j = t) → Room own B w v 1 t := fun own t ho => by
  refine Room.of_owns h (fun g hg j => ?_)
  have := h.lt g hg
  exact ho g j this.1 this.2

set_option maxRecDepth 100000 in
set_option maxHeartbeats 1600000 in
theorem specCopyF {B : Nat} (f : FrM) (v u : Value) (w : World) (hv : IRow B w v f.locals) (hu : IRow B w u f.stack) (hl : f.locals.length ≤ 1048576) (hs : f.stack.length ≤ 1048576) :
    Calls Tryz.prog 105 #[.agg #[.int .i64 f.func, .int .i64 f.pc, v, u]] w fun e w' => SCopyFTold f w w' e := by
  obtain ⟨A, a, rfl⟩ := hv.form
  obtain ⟨D, d, rfl⟩ := hu.form
  obtain ⟨_, _, t2⟩ := boxes_new w #[.int .i64 f.func, .int .i64 f.pc, .slice A f.locals.length a, .slice D f.stack.length d] #[.int .i64 0, .int .i64 0, .slice none 0 0, .slice none 0 0] 110 110
  obtain ⟨wa, hwa⟩ : ∃ wa, wa = (w.alloc (.cells #[.int .i64 f.func, .int .i64 f.pc, .slice A f.locals.length a, .slice D f.stack.length d] 110)).alloc (.cells #[.int .i64 0, .int .i64 0, .slice none 0 0, .slice none 0 0] 110) := ⟨_, rfl⟩
  have y0 : VRow wa w.heap.size [.int .i64 f.func, .int .i64 f.pc, .slice A f.locals.length a, .slice D f.stack.length d] := by
    have h0 := vrow_new w #[.int .i64 f.func, .int .i64 f.pc, .slice A f.locals.length a, .slice D f.stack.length d] 110
    rw [hwa]; exact h0.below ((Below.refl _ _).alloc (Nat.le_refl _) _)
  have y1 : VRow wa (w.heap.size + 1) [.int .i64 0, .int .i64 0, .slice none 0 0, .slice none 0 0] := by
    have := vrow_new (w.alloc (.cells #[.int .i64 f.func, .int .i64 f.pc, .slice A f.locals.length a, .slice D f.stack.length d] 110)) #[.int .i64 0, .int .i64 0, .slice none 0 0, .slice none 0 0] 110
    rw [hwa]; simpa using this
  rw [← hwa] at t2
  have hC := specNums (.slice A f.locals.length a) f.locals wa (hv.below t2) hl
  have HC : Hid (Calls Tryz.prog 104 #[.slice A f.locals.length a] wa fun e w' => NumsTold f.locals wa w' e) := hC
  have Y0 : Hid (VRow wa w.heap.size [.int .i64 f.func, .int .i64 f.pc, .slice A f.locals.length a, .slice D f.stack.length d]) := y0
  have Y1 : Hid (VRow wa (w.heap.size + 1) [.int .i64 0, .int .i64 0, .slice none 0 0, .slice none 0 0]) := y1
  have T2 : Hid (Below w.heap.size w wa) := t2
  have HU : Hid (IRow B w (.slice D f.stack.length d) f.stack) := hu
  clear hv hu t2 y0 y1 hC
  go_enter Tryz.func105, Tryz.ntmps105
  go_wp2_with fail
  rw [← hwa]
  clear hwa
  refine Calls.mono (R := fun e w' => NumsTold f.locals wa w' e) HC.out ?_
  rintro e w1 ⟨v1, rfl, hown1, hb1⟩
  have hi1 : IRow wa.heap.size w1 v1 f.locals := IRow.of_owns hown1 (by omega)
  have hr1 := own_room hown1
  obtain ⟨A1, a1, rfl⟩ := hi1.form
  have z1 := (Y1.out.below hb1).1
  have z0 := (Y0.out.below hb1).1
  obtain ⟨p2, q2⟩ := (Y0.out.below hb1).2 2 (by simp)
  obtain ⟨p3, q3⟩ := (Y0.out.below hb1).2 3 (by simp)
  simp at p2 p3
  obtain ⟨wb, hwb⟩ : ∃ wb, wb = w1.setCell ⟨w.heap.size, 2, none⟩ (.slice A1 f.locals.length a1) := ⟨_, rfl⟩
  have hN : w.heap.size + 1 < wa.heap.size := Y1.out.1
  have I1 : Hid (IRow wa.heap.size wb (.slice A1 f.locals.length a1) f.locals) := by rw [hwb]; exact hi1.set (by simp; omega) _
  have R1 : Hid (∀ own t, (∀ b j, wa.heap.size ≤ b → b < wb.heap.size → own b j = t) → Room own wa.heap.size wb (.slice A1 f.locals.length a1) 1 t) := fun own t ho => by
    rw [hwb] at ho ⊢
    exact (hr1 own t (fun b j h1 h2 => ho b j h1 (by simpa using h2))).setLow (by simp; omega) _
  have X0 : Hid (VRow wb w.heap.size [.int .i64 f.func, .int .i64 f.pc, .slice A1 f.locals.length a1, .slice D f.stack.length d]) := by rw [hwb]; exact (Y0.out.below hb1).set_at 2 _ (by simp)
  have X1 : Hid (VRow wb (w.heap.size + 1) [.int .i64 0, .int .i64 0, .slice none 0 0, .slice none 0 0]) := by rw [hwb]; exact (Y1.out.below hb1).set_far _ _ (by simp)
  have Tb : Hid (Below w.heap.size w wb) := by rw [hwb]; exact (T2.out.trans (hb1.mono T2.out.size)).setCell (by simp) _
  have hsz : Hid (w.heap.size + 1 < wa.heap.size ∧ wa.heap.size ≤ wb.heap.size) := ⟨hN, by rw [hwb]; simpa using hb1.size⟩
  have hC := specNums (.slice D f.stack.length d) f.stack wb (HU.out.below Tb.out) hs
  have HC2 : Hid (Calls Tryz.prog 104 #[.slice D f.stack.length d] wb fun e w' => NumsTold f.stack wb w' e) := hC
  clear hi1 hr1 hown1 hb1 hC HC Y0 Y1 T2 hN
  go_wp2_with fail
  rw [← hwb]
  clear hwb p2 q2 p3 q3 z0 z1
  refine Calls.mono (R := fun e w' => NumsTold f.stack wb w' e) HC2.out ?_
  rintro e w2 ⟨v2, rfl, hown2, hb2⟩
  have hi2 : IRow wb.heap.size w2 v2 f.stack := IRow.of_owns hown2 (by omega)
  have R2 : Hid (∀ own t, (∀ b j, wb.heap.size ≤ b → b < w2.heap.size → own b j = t) → Room own wb.heap.size w2 v2 1 t) := own_room hown2
  obtain ⟨A2, a2, rfl⟩ := hi2.form
  have I2 : Hid (IRow wb.heap.size w2 (.slice A2 f.stack.length a2) f.stack) := hi2
  have J1 : Hid (IRow wa.heap.size w2 (.slice A1 f.locals.length a1) f.locals) := I1.out.below hb2
  have S1 : Hid (∀ own t, (∀ b j, wa.heap.size ≤ b → b < wb.heap.size → own b j = t) → Room own wa.heap.size w2 (.slice A1 f.locals.length a1) 1 t) := fun own t ho => (R1.out own t ho).below hb2
  have T3 : Hid (Below w.heap.size w w2) := Tb.out.trans (hb2.mono Tb.out.size)
  have y0 := X0.out.below hb2
  have y1 := X1.out.below hb2
  have z0 := y0.1
  have z1 := y1.1
  obtain ⟨p0, q0⟩ := y0.2 0 (by simp)
  obtain ⟨p1, q1⟩ := y0.2 1 (by simp)
  obtain ⟨p2, q2⟩ := y0.2 2 (by simp)
  obtain ⟨p3, q3⟩ := y0.2 3 (by simp)
  obtain ⟨r0, s0⟩ := y1.2 0 (by simp)
  obtain ⟨r1, s1⟩ := y1.2 1 (by simp)
  obtain ⟨r2, s2⟩ := y1.2 2 (by simp)
  obtain ⟨r3, s3⟩ := y1.2 3 (by simp)
  simp at p0 p1 p2 p3 r0 r1 r2 r3
  clear hi2 hown2 hb2 HC2 y0 y1 X0 X1 I1 R1 Tb HU
  go_wp2_with fail
  refine bodyPost_ret (v := .agg #[.int .i64 f.func, .int .i64 f.pc, .slice A1 f.locals.length a1, .slice A2 f.stack.length a2]) (by simp [results, Tryz.results105, go_sem, r0, r1, r2, r3]) rfl
    ⟨_, _, wb.heap.size, rfl, by have := hsz.out; omega, IRow.lower (B := wa.heap.size) ?_ (by have := hsz.out; omega), ?_, fun own t ho => Room.lower (B := wa.heap.size) ?_ (by have := hsz.out; omega), fun own t ho => ?_, ?_⟩
  · iterate 5 (refine IRow.set ?_ (by have := hsz.out; simp <;> omega) _)
    exact J1.out
  · iterate 5 (refine IRow.set ?_ (by have := hsz.out; simp <;> omega) _)
    exact I2.out
  · iterate 5 (refine Room.setLow ?_ (by have := hsz.out; simp <;> omega) _)
    exact S1.out own t (fun b j h1 h2 => ho b j (by have := hsz.out; omega) h2)
  · iterate 5 (refine Room.setLow ?_ (by have := hsz.out; simp <;> omega) _)
    exact R2.out own t (fun b j h1 _ => ho b j h1)
  · iterate 5 (refine Below.setCell ?_ (by simp) _)
    exact T3.out
end Go.Proofs.YtnknnncehcofnaaGreatDoor

namespace Go.Proofs.YtnknnncehcofnaaGreatDoor
open Go.RowKit

theorem Mac.frameAdd {B m d : Nat} {pr : Pr} {own own2 : Nat → Nat → Tag} {w w' : World} {V : Tag → Value} {C : Tag → List Value} {s : StM} (M : Mac B m d pr own w V C s) (hpr : pr.frames = none) (hk : s.frames.length ≤ 1048575) (hbel : Below w.heap.size w w') (f : FrM) (Al As : Option Addr) (nl cl ns cs : Nat)
    (hl : Holds w.heap.size w' (.slice Al nl cl) (ints f.locals) 1) (hs : Holds w.heap.size w' (.slice As ns cs) (ints f.stack) 1) (rl : Room own2 w.heap.size w' (.slice Al nl cl) 1 (.loc s.frames.length)) (rs : Room own2 w.heap.size w' (.slice As ns cs) 1 (.stk s.frames.length)) (ad : Addr) (ty : TypeId)
    (n0 : w'.cell? (ad.add 0) = some (.int .i64 f.func)) (n1 : w'.cell? (ad.add 1) = some (.int .i64 f.pc)) (n2 : w'.cell? (ad.add 2) = some (.slice Al nl cl)) (n3 : w'.cell? (ad.add 3) = some (.slice As ns cs)) :
    ∃ A c, V .fr = .slice A s.frames.length c ∧ ∃ b1 off1 cap1 w1, (Builtin.append_ #[43, 43] ty #[.slice A s.frames.length c, .slice (some ad) 1 1]).run Tryz.prog w' = .ok (.slice (some ⟨b1, off1, none⟩) (s.frames.length + 1) cap1) w1 ∧
      ((∃ u, w1.cell? ⟨m, d, none⟩ = some u) ∧ w1.frozen? ⟨m, d, none⟩ = false ∧ m < w1.heap.size) ∧ Below B w w1 ∧
      ∃ own2 V2 C2, Mac B m d pr own2 (w1.setCell ⟨m, d, none⟩ (.slice (some ⟨b1, off1, none⟩) (s.frames.length + 1) cap1)) V2 C2 { s with frames := s.frames ++ [f] } ∧ Below B w (w1.setCell ⟨m, d, none⟩ (.slice (some ⟨b1, off1, none⟩) (s.frames.length + 1) cap1)) := by
  have hlf := M.k.frames_len
  obtain ⟨A, c, hv⟩ : ∃ A c, V .fr = .slice A s.frames.length c := by
    have h := M.l.row .fr trivial
    obtain ⟨A, n, c, hv⟩ := h.form
    have hl := (h.len hv).1
    simp only [szT] at hl
    obtain rfl : n = s.frames.length := by omega
    exact ⟨A, c, hv⟩
  have hB : B ≤ w.heap.size := Nat.le_of_lt (Nat.lt_of_le_of_lt M.base M.lt)
  have hO2 : OwnL own2 w.heap.size w' (fun t => t = .loc s.frames.length ∨ t = .stk s.frames.length) (fun t => if t = .loc s.frames.length then .slice Al nl cl else .slice As ns cs) (fun t => if t = .loc s.frames.length then ints f.locals else ints f.stack) := by
    refine ⟨fun t ht => ?_, fun t ht => ?_⟩
    · rcases ht with rfl | rfl
      · rw [if_pos rfl, if_pos rfl]; exact hl
      · rw [if_neg (by simp), if_neg (by simp)]; exact hs
    · rcases ht with rfl | rfl
      · rw [if_pos rfl]; exact rl
      · rw [if_neg (by simp)]; exact rs
  have hJ := M.l.join (L' := liveF s) (V' := upd (upd V (.loc s.frames.length) (.slice Al nl cl)) (.stk s.frames.length) (.slice As ns cs)) (C' := upd (upd C (.loc s.frames.length) (ints f.locals)) (.stk s.frames.length) (ints f.stack)) hO2 (Nat.le_refl _) hbel hB (fun t ht => by
    by_cases e1 : t = .loc s.frames.length
    · subst e1
      exact .inl ⟨.inl rfl, by rw [upd_far _ _ (by simp), upd_at, if_pos rfl], by rw [upd_far _ _ (by simp), upd_at, if_pos rfl]⟩
    · by_cases e2 : t = .stk s.frames.length
      · subst e2
        exact .inl ⟨.inr rfl, by rw [upd_at, if_neg (by simp)], by rw [upd_at, if_neg (by simp)]⟩
      · exact .inr ⟨(ht.resolve_left e1).resolve_left e2, by rw [upd_far _ _ e2, upd_far _ _ e1], by rw [upd_far _ _ e2, upd_far _ _ e1]⟩)
  obtain ⟨i0, hii, hz0, hz1, hz2⟩ := info_parts Tryz.infoFrame
  have hsrc : Src Tryz.prog i0.size 43 (.slice (some ad) 1 1) 1 [.int .i64 f.func, .int .i64 f.pc, .slice Al nl cl, .slice As ns cs] w' := by
    rw [hz1]
    refine Src.ofSlice w' Tryz.underlying43 ad 1 1 _ (by simp) (fun j u hj => ?_) (fun u hu => ?_)
    · match j, hj with
      | 0, hj => simp at hj; subst hj; exact n0
      | 1, hj => simp at hj; subst hj; exact n1
      | 2, hj => simp at hj; subst hj; exact n2
      | 3, hj => simp at hj; subst hj; exact n3
      | j + 4, hj => simp at hj
    · simp at hu
      rcases hu with rfl | rfl | rfl | rfl <;> rfl
  have hvh : upd (upd V (.loc s.frames.length) (.slice Al nl cl)) (.stk s.frames.length) (.slice As ns cs) .fr = .slice A s.frames.length c := by rw [upd_far _ _ (by simp), upd_far _ _ (by simp)]; exact hv
  obtain ⟨b1, off1, cap1, w1, own1, hrun, O, D, _⟩ := hJ.append (Nat.le_trans hB hbel.size) (t := .fr) (.inr (.inr trivial)) 43 110 ty 43 i0 (.agg #[.int .i64 0, .int .i64 0, .slice none 0 0, .slice none 0 0]) Tryz.underlying43 hii hz0 (by rw [hz1]; rfl) rfl (by rw [hz2]; omega) hvh (.slice (some ad) 1 1) 1 _ hsrc (by omega) (by omega)
  rw [hvh] at hrun
  rw [upd_far (upd C (.loc s.frames.length) (ints f.locals)) _ (show Tag.fr ≠ .stk s.frames.length by simp), upd_far C _ (show Tag.fr ≠ .loc s.frames.length by simp)] at O
  have D' : DidT own own1 B .fr w w1 := (DidT.new (own2 := own2) hbel (Nat.le_refl _) hB).trans D
  obtain ⟨V2, C2, M2, hb2⟩ := M.addFrame hpr f _ _ _ D' O (by omega)
  obtain ⟨-, m2, m3, -⟩ := M.did D' (by simp)
  have m30 := m3 0 (by omega)
  rw [Nat.add_zero] at m30
  exact ⟨A, c, hv, b1, off1, cap1, w1, hrun, ⟨⟨_, m30.1.trans rfl⟩, m30.2, m2⟩, D'.below, own1, V2, C2, M2, hb2⟩

theorem Mac.arrAdd {B m d : Nat} {pr : Pr} {own own2 : Nat → Nat → Tag} {w w' : World} {V : Tag → Value} {C : Tag → List Value} {s : StM} (M : Mac B m d pr own w V C s) (hk : s.heap.length ≤ 1048575) (hbel : Below w.heap.size w w') (l : List Int) (Al : Option Addr) (nl cl : Nat)
    (hl : Holds w.heap.size w' (.slice Al nl cl) (ints l) 1) (rl : Room own2 w.heap.size w' (.slice Al nl cl) 1 (.arr s.heap.length)) (ad : Addr) (ty : TypeId) (n0 : w'.cell? (ad.add 0) = some (.slice Al nl cl)) :
    ∃ A c, V .hp = .slice A s.heap.length c ∧ ∃ b1 off1 cap1 w1, (Builtin.append_ #[38, 38] ty #[.slice A s.heap.length c, .slice (some ad) 1 1]).run Tryz.prog w' = .ok (.slice (some ⟨b1, off1, none⟩) (s.heap.length + 1) cap1) w1 ∧
      ((∃ u, w1.cell? ⟨m, d + 1, none⟩ = some u) ∧ w1.frozen? ⟨m, d + 1, none⟩ = false ∧ m < w1.heap.size) ∧ Below B w w1 ∧
      ∃ own2 V2 C2, Mac B m d pr own2 (w1.setCell ⟨m, d + 1, none⟩ (.slice (some ⟨b1, off1, none⟩) (s.heap.length + 1) cap1)) V2 C2 { s with heap := s.heap ++ [l] } ∧ Below B w (w1.setCell ⟨m, d + 1, none⟩ (.slice (some ⟨b1, off1, none⟩) (s.heap.length + 1) cap1)) := by
  obtain ⟨A, c, hv⟩ := M.hpForm
  have hB : B ≤ w.heap.size := Nat.le_of_lt (Nat.lt_of_le_of_lt M.base M.lt)
  have hO2 : OwnL own2 w.heap.size w' (fun t => t = .arr s.heap.length) (fun _ => .slice Al nl cl) (fun _ => ints l) := ⟨fun t ht => by subst ht; exact hl, fun t ht => by subst ht; exact rl⟩
  have hJ := M.l.join (L' := liveA s) (V' := upd V (.arr s.heap.length) (.slice Al nl cl)) (C' := upd C (.arr s.heap.length) (ints l)) hO2 (Nat.le_refl _) hbel hB (fun t ht => by
    rcases ht with rfl | ht
    · exact .inl ⟨rfl, upd_at _ _ _, upd_at _ _ _⟩
    · by_cases e : t = .arr s.heap.length
      · subst e; exact .inl ⟨rfl, upd_at _ _ _, upd_at _ _ _⟩
      · exact .inr ⟨ht, upd_far _ _ e, upd_far _ _ e⟩)
  obtain ⟨i0, hii, hz0, hz1, hz2⟩ := info_parts Tryz.infoInts
  have hsrc : Src Tryz.prog i0.size 38 (.slice (some ad) 1 1) 1 [.slice Al nl cl] w' := by
    rw [hz1]
    refine Src.ofSlice w' Tryz.underlying38 ad 1 1 _ (by simp) (fun j u hj => ?_) (fun u hu => ?_)
    · obtain ⟨h1, h2⟩ := List.getElem?_eq_some_iff.1 hj
      have hj0 : j = 0 := by simpa using h1
      subst hj0
      rw [← h2]
      exact n0
    · simp at hu
      subst hu
      rfl
  have hvh : upd V (.arr s.heap.length) (.slice Al nl cl) .hp = .slice A s.heap.length c := by rw [upd_far _ _ (by simp)]; exact hv
  obtain ⟨b1, off1, cap1, w1, own1, hrun, O, D, _⟩ := hJ.append (Nat.le_trans hB hbel.size) (t := .hp) (.inr trivial) 38 28 ty 38 i0 (.slice none 0 0) Tryz.underlying38 hii hz0 (by rw [hz1]; rfl) rfl (by rw [hz2]; omega) hvh (.slice (some ad) 1 1) 1 _ hsrc (by omega) (by omega)
  rw [hvh] at hrun
  rw [upd_far C _ (show Tag.hp ≠ .arr s.heap.length by simp)] at O
  have D' : DidT own own1 B .hp w w1 := (DidT.new (own2 := own2) hbel (Nat.le_refl _) hB).trans D
  obtain ⟨V2, C2, M2, hb2⟩ := M.addArr l _ _ D' O (by omega)
  obtain ⟨-, m2, m3, -⟩ := M.did D' (by simp)
  exact ⟨A, c, hv, b1, off1, cap1, w1, hrun, ⟨⟨_, (m3 1 (by omega)).1.trans rfl⟩, (m3 1 (by omega)).2, m2⟩, D'.below, own1, V2, C2, M2, hb2⟩

/-- a machine with no frames and no arrays -/
theorem mac_bare {B m d : Nat} {pr : Pr} {w : World} {A : Option Addr} {n c : Nat} {out : List Int} {own : Nat → Nat → Tag} {fuel value trap : Int} {done : Bool} (ho : Holds B w (.slice A n c) (ints out) 1) (hr : Room own B w (.slice A n c) 1 .out) (hm : ∀ j, own m j = .no) (hB : B ≤ m) (hl : m < w.heap.size)
    (hc : ∀ q, q < 7 → w.cell? ⟨m, d + q, none⟩ = ([.slice none 0 0, .slice none 0 0, .slice A n c, .int .i64 fuel, .bool done, .int .i64 value, .int .i64 trap] : List Value)[q]? ∧ w.frozen? ⟨m, d + q, none⟩ = false) (hp : PreT B m d pr own w) :
    ∃ V C, Mac B m d pr own w V C ⟨[], [], out, fuel, done, value, trap⟩ := by
  have nilH : ∀ z, Holds B w (.slice none 0 0) [] z := fun z => ⟨none, 0, 0, rfl, Nat.le_refl _, by simp, fun j hj => absurd hj (by simp)⟩
  have nilR : ∀ z t, Room own B w (.slice none 0 0) z t := fun z t => ⟨none, 0, 0, rfl, Nat.le_refl _, fun j hj => by omega⟩
  refine ⟨fun t => match t with | .out => .slice A n c | _ => .slice none 0 0, fun t => match t with | .out => ints out | _ => [], ⟨⟨fun t ht => ?_, fun t ht => ?_⟩, ⟨rfl, rfl, rfl, fun i hi => absurd hi (by simp), fun i hi => absurd hi (by simp), fun i hi => absurd hi (by simp), by simp⟩, hm, hB, hl, hc, hp⟩⟩
  · cases t with
    | out => exact ho
    | fr => exact nilH _
    | hp => exact nilH _
    | loc i => exact nilH _
    | stk i => exact nilH _
    | arr i => exact nilH _
    | no => exact absurd ht (by simp [liveT])
  · cases t with
    | out => exact hr
    | fr => exact nilR _ _
    | hp => exact nilR _ _
    | loc i => exact nilR _ _
    | stk i => exact nilR _ _
    | arr i => exact nilR _ _
    | no => exact absurd ht (by simp [liveT])
end Go.Proofs.YtnknnncehcofnaaGreatDoor
