/- Doings: call: a frame that was laid is appended. -/
import Derived.Test.YtnknnncehcofnaaGreatDoorJ24MacL
namespace Go.Proofs.YtnknnncehcofnaaGreatDoor
open Go.RowKit

/-- a frame just laid in block g (locals, then the stack's room) is appended to the frames -/
theorem Mac.frameRun {B m d : Nat} {pr : Pr} {own : Nat → Nat → Tag} {w w' : World} {V : Tag → Value} {C : Tag → List Value} {s : StM} (M : Mac B m d pr own w V C s) (hpr : pr.frames = none) (hk : s.frames.length ≤ 1048575) (hbel : Below w.heap.size w w') (g lo : Nat) (fn : Int) (loc : List Int) (hlo : loc.length = lo) (hg : w.heap.size ≤ g) (hV : VRow w' g (ints (loc ++ List.replicate 8 0))) (ad : Addr) (ty : TypeId)
    (n0 : w'.cell? (ad.add 0) = some (.int .i64 fn)) (n1 : w'.cell? (ad.add 1) = some (.int .i64 0)) (n2 : w'.cell? (ad.add 2) = some (.slice (some ⟨g, 0, none⟩) lo lo)) (n3 : w'.cell? (ad.add 3) = some (.slice (some ⟨g, lo, none⟩) 0 8)) :
    ∃ A c, V .fr = .slice A s.frames.length c ∧ ∃ b1 off1 cap1 w1, (Builtin.append_ #[43, 43] ty #[.slice A s.frames.length c, .slice (some ad) 1 1]).run Tryz.prog w' = .ok (.slice (some ⟨b1, off1, none⟩) (s.frames.length + 1) cap1) w1 ∧
      ((∃ u, w1.cell? ⟨m, d, none⟩ = some u) ∧ w1.frozen? ⟨m, d, none⟩ = false ∧ m < w1.heap.size) ∧
      ∃ own2 V2 C2, Mac B m d pr own2 (w1.setCell ⟨m, d, none⟩ (.slice (some ⟨b1, off1, none⟩) (s.frames.length + 1) cap1)) V2 C2 { s with frames := s.frames ++ [⟨fn, 0, loc, []⟩] } ∧ Below B w (w1.setCell ⟨m, d, none⟩ (.slice (some ⟨b1, off1, none⟩) (s.frames.length + 1) cap1)) := by
  subst hlo
  have hlf := M.k.frames_len
  obtain ⟨A, c, hv⟩ : ∃ A c, V .fr = .slice A s.frames.length c := by
    have h := M.l.row .fr trivial
    obtain ⟨A, n, c, hv⟩ := h.form
    have hl := (h.len hv).1
    simp only [szT] at hl
    obtain rfl : n = s.frames.length := by omega
    exact ⟨A, c, hv⟩
  have hB : B ≤ w.heap.size := Nat.le_of_lt (Nat.lt_of_le_of_lt M.base M.lt)
  have hvl : (ints (loc ++ List.replicate 8 0)).length = loc.length + 8 := by rw [ints_length]; simp
  have hcell : ∀ j, j < loc.length + 8 → w'.cell? ⟨g, j, none⟩ = (ints (loc ++ List.replicate 8 0))[j]? ∧ w'.frozen? ⟨g, j, none⟩ = false := fun j hj => by
    obtain ⟨h1, h2⟩ := hV.2 j (by rw [hvl]; exact hj)
    exact ⟨by rw [h1]; exact (List.getElem?_eq_getElem _).symm, h2⟩
  have hO2 : OwnL (fun _ j => if j < loc.length then Tag.loc s.frames.length else .stk s.frames.length) w.heap.size w' (fun t => t = .loc s.frames.length ∨ t = .stk s.frames.length) (fun t => if t = .loc s.frames.length then .slice (some ⟨g, 0, none⟩) loc.length loc.length else .slice (some ⟨g, loc.length, none⟩) 0 8) (fun t => if t = .loc s.frames.length then ints loc else ints []) := by
    refine ⟨fun t ht => ?_, fun t ht => ?_⟩
    · rcases ht with rfl | rfl
      · rw [if_pos rfl, if_pos rfl]
        refine ⟨_, loc.length, loc.length, rfl, Nat.le_refl _, by rw [ints_length]; simp [szT], fun j hj => ⟨g, 0, rfl, hg, hV.1, ?_⟩⟩
        rw [ints_length] at hj
        rw [Nat.zero_add, (hcell j (by omega)).1]
        unfold ints
        rw [List.map_append, List.getElem?_append_left (by simpa using hj)]
        exact List.getElem?_eq_getElem _
      · rw [if_neg (by simp), if_neg (by simp)]
        exact ⟨_, 0, 8, rfl, by omega, by simp [ints], fun j hj => absurd hj (by simp [ints])⟩
    · rcases ht with rfl | rfl
      · rw [if_pos rfl]
        refine ⟨_, loc.length, loc.length, rfl, Nat.le_refl _, fun j hj => ⟨g, 0, rfl, hg, hV.1, ?_, ?_, ?_⟩⟩
        · simp only [szT, Nat.mul_one] at hj
          rw [Nat.zero_add, (hcell j (by omega)).1, List.getElem?_eq_getElem (by rw [hvl]; omega)]; rfl
        · simp only [szT, Nat.mul_one] at hj
          rw [Nat.zero_add]; exact (hcell j (by omega)).2
        · simp only [szT, Nat.mul_one] at hj
          rw [Nat.zero_add]
          exact if_pos hj
      · rw [if_neg (by simp)]
        refine ⟨_, 0, 8, rfl, by omega, fun j hj => ⟨g, loc.length, rfl, hg, hV.1, ?_, ?_, ?_⟩⟩
        · simp only [szT, Nat.mul_one] at hj
          rw [(hcell (loc.length + j) (by omega)).1, List.getElem?_eq_getElem (by rw [hvl]; omega)]; rfl
        · simp only [szT, Nat.mul_one] at hj
          exact (hcell (loc.length + j) (by omega)).2
        · exact if_neg (by omega)
  have hJ := M.l.join (L' := liveF s) (V' := upd (upd V (.loc s.frames.length) (.slice (some ⟨g, 0, none⟩) loc.length loc.length)) (.stk s.frames.length) (.slice (some ⟨g, loc.length, none⟩) 0 8)) (C' := upd (upd C (.loc s.frames.length) (ints loc)) (.stk s.frames.length) (ints [])) hO2 (Nat.le_refl _) hbel hB (fun t ht => by
    by_cases e1 : t = .loc s.frames.length
    · subst e1
      exact .inl ⟨.inl rfl, by rw [upd_far _ _ (by simp), upd_at, if_pos rfl], by rw [upd_far _ _ (by simp), upd_at, if_pos rfl]⟩
    · by_cases e2 : t = .stk s.frames.length
      · subst e2
        exact .inl ⟨.inr rfl, by rw [upd_at, if_neg (by simp)], by rw [upd_at, if_neg (by simp)]⟩
      · exact .inr ⟨(ht.resolve_left e1).resolve_left e2, by rw [upd_far _ _ e2, upd_far _ _ e1], by rw [upd_far _ _ e2, upd_far _ _ e1]⟩)
  obtain ⟨i0, hii, hz0, hz1, hz2⟩ := info_parts Tryz.infoFrame
  have hsrc : Src Tryz.prog i0.size 43 (.slice (some ad) 1 1) 1 [.int .i64 fn, .int .i64 0, .slice (some ⟨g, 0, none⟩) loc.length loc.length, .slice (some ⟨g, loc.length, none⟩) 0 8] w' := by
    rw [hz1]
    refine Src.ofSlice w' Tryz.underlying43 ad 1 1 _ (by simp) (fun j u hj => ?_) (fun u hu => ?_)
    · match j, hj with
      | 0, hj => simp at hj; subst hj; exact n0
      | 1, hj => simp at hj; subst hj; exact n1
      | 2, hj => simp at hj; subst hj; exact n2
      | 3, hj => simp at hj; subst hj; exact n3
      | j + 4, hj => simp at hj
    · simp at hu
      rcases hu with rfl | rfl | rfl | rfl <;> rfl
  have hvh : upd (upd V (.loc s.frames.length) (.slice (some ⟨g, 0, none⟩) loc.length loc.length)) (.stk s.frames.length) (.slice (some ⟨g, loc.length, none⟩) 0 8) .fr = .slice A s.frames.length c := by rw [upd_far _ _ (by simp), upd_far _ _ (by simp)]; exact hv
  obtain ⟨b1, off1, cap1, w1, own1, hrun, O, D, _⟩ := hJ.append (Nat.le_trans hB hbel.size) (t := .fr) (.inr (.inr trivial)) 43 110 ty 43 i0 (.agg #[.int .i64 0, .int .i64 0, .slice none 0 0, .slice none 0 0]) Tryz.underlying43 hii hz0 (by rw [hz1]; rfl) rfl (by rw [hz2]; omega) hvh (.slice (some ad) 1 1) 1 _ hsrc (by omega) (by omega)
  rw [hvh] at hrun
  rw [upd_far (upd C (.loc s.frames.length) (ints loc)) _ (show Tag.fr ≠ .stk s.frames.length by simp), upd_far C _ (show Tag.fr ≠ .loc s.frames.length by simp)] at O
  have D' : DidT own own1 B .fr w w1 := (DidT.new (own2 := fun _ j => if j < loc.length then Tag.loc s.frames.length else .stk s.frames.length) hbel (Nat.le_refl _) hB).trans D
  obtain ⟨V2, C2, M2, hb2⟩ := M.addFrame hpr ⟨fn, 0, loc, []⟩ _ _ _ D' O (by omega)
  obtain ⟨-, m2, m3, -⟩ := M.did D' (by simp)
  have m30 := m3 0 (by omega)
  rw [Nat.add_zero] at m30
  exact ⟨A, c, hv, b1, off1, cap1, w1, hrun, ⟨⟨_, m30.1.trans rfl⟩, m30.2, m2⟩, own1, V2, C2, M2, hb2⟩

set_option maxRecDepth 100000 in
set_option maxHeartbeats 3200000 in
theorem doDeep (B m : Nat) (vp : PV) (s : StM) (op x : Int) (w : World) (hM : MacI B m vp w s) (h10 : 10 ≤ s.frames.length) (hk : s.frames.length ≤ 1048575) :
    Doing 129 B m vp op x s 15 w := by
  have hB := hM.hB
  obtain ⟨own, V, C, M⟩ := hM
  have hal : Below w.heap.size w (w.alloc (.cells #[.int .i64 op, .int .i64 x] 112)) := (Below.refl _ _).alloc (Nat.le_refl _) _
  have H4 : Hid (MacI B m vp (w.alloc (.cells #[.int .i64 op, .int .i64 x] 112)) s ∧ Below B w (w.alloc (.cells #[.int .i64 op, .int .i64 x] 112))) := ⟨⟨_, _, _, M.below hal⟩, hal.mono hB⟩
  obtain ⟨A, c, hv⟩ : ∃ A c, V .fr = .slice A s.frames.length c := by
    have h := M.l.row .fr trivial
    obtain ⟨A, n, c, hv⟩ := h.form
    have hl := (h.len hv).1
    have := M.k.frames_len
    simp only [szT] at hl
    obtain rfl : n = s.frames.length := by omega
    exact ⟨A, c, hv⟩
  have c1 := M.mcell.1
  rw [hv] at c1
  have hm := M.lt
  clear M hv hal
  obtain ⟨n, hn⟩ : ∃ n, n = s.frames.length := ⟨_, rfl⟩
  rw [← hn] at c1 h10 hk
  clear hn
  have h10' : (10 : Int) ≤ n := by omega
  unfold Doing
  go_enter Tryz.func129, Tryz.ntmps129
  go_wp2_with fail
  go_ret
  exact ⟨rfl, H4.out.1, H4.out.2⟩

def CutC (B m : Nat) (vp : PV) (own : Nat → Nat → Tag) (s' : StM) (v : List Int) (y : Nat) (w wc : World) (q : Value) : Prop := ∃ At V2 C2, q = .slice At v.length v.length ∧ Mac B m 1 (prOf vp) own wc V2 C2 s' ∧ IRow B wc (.slice At v.length v.length) v ∧ Below B w wc ∧ wc.cell? ⟨w.heap.size, 1, none⟩ = some (.int .i64 (y : Int)) ∧ w.heap.size < wc.heap.size

set_option maxRecDepth 100000 in
set_option maxHeartbeats 3200000 in
theorem doCall (B m : Nat) (vp : PV) (p : List FnM) (s : StM) (low : List FrM) (f : FrM) (st v : List Int) (y lo : Nat) (w : World) (hM : MacI B m vp w s) (hs : s.frames = low ++ [f]) (hst : f.stack = st ++ v) (hk : f.stack.length ≤ 1048575) (hl : low.length < 9)
    (hP : ∀ w', Below B w w' → FnRow 0 w' vp.v p ∧ Tab w') (hy : y < p.length) (htk : takesM p 32 (y : Int) = v.length) (hlo : p[y].locals = (lo : Int)) (hvl : v.length ≤ lo) (hlo2 : lo ≤ 1048576) :
    Doing 129 B m vp 32 y { (onTop s low ⟨f.func, f.pc, f.locals, st⟩) with frames := low ++ [⟨f.func, f.pc, f.locals, st⟩, ⟨(y : Int), 0, newLocals lo v, []⟩] } 0 w := by
  obtain ⟨vv, fx⟩ := vp
  have hP : ∀ w', Below B w w' → FnRow 0 w' vv p ∧ Tab w' := hP
  have hm0 : m < w.heap.size := by obtain ⟨_, _, _, M0⟩ := hM; exact M0.lt
  obtain ⟨own, V, C, W, hW, M, ho, hB, hb⟩ := hM.enter 32 y
  have Hb : Hid (Below B w W) := hb
  have hfl : s.frames.length = low.length + 1 := by rw [hs]; simp
  obtain ⟨b, off, cap, c1, T, -⟩ := M.topI hs
  have p0 : W.cell? ⟨m, 0, none⟩ = some vv := M.pre.1 0 (by omega)
  rw [hW, World.cell?_alloc_past _ _ _ (by exact hm0)] at c1 p0
  obtain ⟨Ap, cp, rfl⟩ := (hP w (Below.refl _ _)).1.form
  have HTk : Hid (∀ w', Below B w w' → Calls Tryz.prog 182 #[.agg #[.slice Ap p.length cp], .agg #[.int .i64 32, .int .i64 (y : Int)]] w' fun e w2 => e = .returned (.int .i64 (v.length : Int)) ∧ Below w'.heap.size w' w2) := fun w' h => by
    have := implTakes (.slice Ap p.length cp) p 32 (y : Int) w' (hP w' h).2 (hP w' h).1
    rw [htk] at this
    exact this
  have HTake : Hid (∀ w', Below W.heap.size W w' → Calls Tryz.prog 181 #[.pointer (some ⟨m, 0, none⟩), .int .i64 (v.length : Int)] w' fun e w2 => TakeTold B m ⟨.slice Ap p.length cp, fx⟩ own (onTop s low ⟨f.func, f.pc, f.locals, st⟩) v w' w2 e) := fun w' h => implTake B m _ own V C s low f st v w' (M.below h) hs hst (by omega) (by omega)
  have hl9 : (low.length : Int) + 1 < 10 := by omega
  have i0 := hB.at0
  have i1 := hB.at1
  have iz := hB.1
  have p0' : W.cell? ⟨m, 0, none⟩ = some (.slice Ap p.length cp) := M.pre.1 0 (by omega)
  have hmW := M.lt
  have HSp : Hid (∀ w2, Below W.heap.size W w2 → ∀ w3 e, TakeTold B m ⟨.slice Ap p.length cp, fx⟩ own (onTop s low ⟨f.func, f.pc, f.locals, st⟩) v w2 w3 e → ∃ q, e = .returned q ∧ CutC B m ⟨.slice Ap p.length cp, fx⟩ own (onTop s low ⟨f.func, f.pc, f.locals, st⟩) v y w w3 q) := fun w2 h2 w3 e h3 => by
    obtain ⟨At, V2, C2, rfl, M1, hr, h4, hsp, hsz⟩ := h3
    have hB1 : B ≤ W.heap.size := Nat.le_of_lt (Nat.lt_of_le_of_lt M.base M.lt)
    refine ⟨_, rfl, At, V2, C2, rfl, M1, hr, (hb.trans (h2.mono hB1)).trans h4, ?_, ?_⟩
    · rw [hsp w.heap.size 1 (ho 1) (Nat.lt_of_lt_of_le iz h2.size), h2.cell (by exact iz)]; exact i1
    · rw [hsz]; exact Nat.lt_of_lt_of_le iz h2.size
  have HBW : Hid (∀ w', Below W.heap.size W w' → Below B w w') := fun w' h => hb.trans (h.mono (Nat.le_of_lt (Nat.lt_of_le_of_lt M.base M.lt)))
  clear M T hB hb ho
  unfold Doing
  go_enter Tryz.func129, Tryz.ntmps129
  go_wp2_with fail
  rw [← hW]
  clear hW
  go_cut [5] (fun q wc => CutC B m ⟨.slice Ap p.length cp, fx⟩ own (onTop s low ⟨f.func, f.pc, f.locals, st⟩) v y w wc q)
  case first =>
    go_region_with (first
      | (go_at_call 182; refine (HTk.out W.drew (HBW.out _ (Below.refl _ _).drew)).mono ?_; rintro e w2 ⟨rfl, hb2⟩
         have hb2' : Below W.heap.size W w2 := (Below.refl _ _).drew.trans (hb2.mono (Nat.le_refl _)))
      | (go_at_call 181; refine Calls.mono (R := fun e w3 => TakeTold B m ⟨.slice Ap p.length cp, fx⟩ own (onTop s low ⟨f.func, f.pc, f.locals, st⟩) v w2 w3 e) (HTake.out w2 hb2') ?_; rintro e w3 h3
         obtain ⟨qv, rfl, hC⟩ := HSp.out w2 hb2' w3 e h3
         have HC : Hid (CutC B m ⟨.slice Ap p.length cp, fx⟩ own (onTop s low ⟨f.func, f.pc, f.locals, st⟩) v y w w3 qv) := hC
         clear hC h3))
    all_goals
      go_wp2_with fail
      go_meet
      exact HC.out
  case rest =>
    obtain ⟨At, V2, C2, rfl, M1, hr, hbc, i1', izc⟩ := hcut
    obtain ⟨bc, offc, capc, cc1, Tc, -⟩ := M1.topI (low := low) (f := ⟨f.func, f.pc, f.locals, st⟩) rfl
    have cp0 : wc.cell? ⟨m, 0, none⟩ = some (.slice Ap p.length cp) := M1.pre.1 0 (by omega)
    have hmc := M1.lt
    have HN : Hid (Calls Tryz.prog 183 #[.agg #[.slice Ap p.length cp], .int .i64 (y : Int), .slice At v.length v.length] wc.drew fun e w4 => ∃ g b1 off1 cap1 w5 u, e = .returned (.agg #[.int .i64 (y : Int), .int .i64 0, .slice (some ⟨g, 0, none⟩) lo lo, .slice (some ⟨g, lo, none⟩) 0 8]) ∧ m < w4.heap.size ∧ w4.cell? ⟨m, 1, none⟩ = some (.slice (some ⟨bc, offc, none⟩) (low.length + 1) capc) ∧
        (Builtin.append_ #[43, 43] 43 #[.slice (some ⟨bc, offc, none⟩) (low.length + 1) capc, .slice (some ⟨w4.heap.size, 0, none⟩) 1 1]).run Tryz.prog (w4.alloc (.cells #[.int .i64 (y : Int), .int .i64 0, .slice (some ⟨g, 0, none⟩) lo lo, .slice (some ⟨g, lo, none⟩) 0 8] 110)) = .ok (.slice (some ⟨b1, off1, none⟩) (low.length + 1 + 1) cap1) w5 ∧ w5.cell? ⟨m, 1, none⟩ = some u ∧ w5.frozen? ⟨m, 1, none⟩ = false ∧ m < w5.heap.size ∧
        Hid (MacI B m ⟨.slice Ap p.length cp, fx⟩ (w5.setCell ⟨m, 1, none⟩ (.slice (some ⟨b1, off1, none⟩) (low.length + 1 + 1) cap1)) { (onTop s low ⟨f.func, f.pc, f.locals, st⟩) with frames := low ++ [⟨f.func, f.pc, f.locals, st⟩, ⟨(y : Int), 0, newLocals lo v, []⟩] } ∧ Below B w (w5.setCell ⟨m, 1, none⟩ (.slice (some ⟨b1, off1, none⟩) (low.length + 1 + 1) cap1)))) := by
      have hbd : Below wc.heap.size wc wc.drew := (Below.refl _ _).drew
      refine Calls.mono (implNew (.slice Ap p.length cp) (.slice At v.length v.length) p y lo v wc.drew (hP wc hbc).1 hy hlo (hr.below hbd) hvl hlo2) ?_
      rintro e w4 ⟨g, rfl, hg, hVg, hb4⟩
      have hal4 : Below w4.heap.size w4 (w4.alloc (.cells #[.int .i64 (y : Int), .int .i64 0, .slice (some ⟨g, 0, none⟩) lo lo, .slice (some ⟨g, lo, none⟩) 0 8] 110)) := (Below.refl _ _).alloc (Nat.le_refl _) _
      have hX := box_new w4 #[.int .i64 (y : Int), .int .i64 0, .slice (some ⟨g, 0, none⟩) lo lo, .slice (some ⟨g, lo, none⟩) 0 8] 110
      have hnl : (newLocals lo v).length = lo := by unfold newLocals; rw [List.length_append, List.length_replicate]; omega
      obtain ⟨A', c', hv', b1, off1, cap1, w5, hrun, ⟨⟨u, d0⟩, d1, d2⟩, own2, V3, C3, M3, hb3⟩ := (M1.below hbd).frameRun rfl (by simp [onTop]; omega) (hb4.trans (hal4.mono hb4.size)) g lo (y : Int) (newLocals lo v) hnl hg (hVg.below hal4) ⟨w4.heap.size, 0, none⟩ 43 hX.at0 hX.at1 hX.at2 (hX.2 3)
      rw [Tc.slice] at hv'
      simp only [Value.slice.injEq] at hv'
      obtain ⟨rfl, e2, rfl⟩ := hv'
      rw [← e2] at hrun M3 hb3
      have ef : (onTop s low ⟨f.func, f.pc, f.locals, st⟩).frames ++ [⟨(y : Int), 0, newLocals lo v, []⟩] = low ++ [⟨f.func, f.pc, f.locals, st⟩, ⟨(y : Int), 0, newLocals lo v, []⟩] := by simp [onTop]
      rw [ef] at M3
      exact ⟨g, b1, off1, cap1, w5, u, rfl, Nat.lt_of_lt_of_le hmc hb4.size, by rw [hb4.cell (by exact hmc)]; exact cc1, hrun, d0, d1, d2, ⟨own2, V3, C3, M3⟩, (hbc.trans (Below.refl _ _).drew).trans hb3⟩
    clear i0 i1 iz p0' hmW c1 p0 HTk HTake HSp HBW M1 Tc hr hbc
    have hyl : (y : Int) < p.length := by omega
    go_wp2_with fail
    go_region_law (first
      | (go_simp; go_at_call 183; refine HN.out.mono ?_; rintro e w4 ⟨g, b1, off1, cap1, w5, u, rfl, hm4, c4, hrun, d0, d1, d2, H1⟩)
      | (refine step_append_run rfl (.tmp 26) (.tmp 35) 43 rfl (.slice (some ⟨bc, offc, none⟩) (low.length + 1) capc) (.slice (some ⟨w4.heap.size, 0, none⟩) 1 1) (by simp [Act.eval]) (by simp [Act.eval]) _ _ hrun ?_))
    all_goals
      go_wp2_with fail
      go_ret
      exact ⟨rfl, H1.out.1, H1.out.2⟩
end Go.Proofs.YtnknnncehcofnaaGreatDoor
