/- impl.Begin. -/
import Derived.Test.YtfaameimocjaiaaDoorNewW
import Derived.Test.YtfaameimocjaiaaDoorToldW
import Derived.Test.YtfaameimocjaiaaDoorStMarkS
import Derived.Test.YtfaameimocjaiaaDoorHeiI
namespace Go.Proofs.YtfaameimocjaiaaDoor
open Go.RowKit

def BegOk (p : List FnM) (f : Int) (l : List Int) (fuel : Int) : Prop := RightP p ∧ inL f p.length = true ∧ (l.length : Int) = (fnAt p f).args ∧ 0 ≤ fuel ∧ fuel ≤ 3000
def begS (f : Int) (lo : Nat) (l : List Int) (fuel : Int) : StM := ⟨[⟨f, 0, newLocals lo l, []⟩], [], [], fuel, false, 0, 0⟩
def zeroS : StM := ⟨[], [], [], 0, false, 0, 0⟩
/-- the state that is begun -/
def BegIs (p : List FnM) (f : Int) (l : List Int) (fuel : Int) (s : StM) : Prop := (BegOk p f l fuel ∧ s = begS f (fnAt p f).locals.toNat l fuel) ∨ (¬ BegOk p f l fuel ∧ s = zeroS)

theorem BegIs.unique {p : List FnM} {f : Int} {l : List Int} {fuel : Int} {s t : StM} (h : BegIs p f l fuel s) (k : BegIs p f l fuel t) : s = t := by
  rcases h with ⟨h1, h2⟩ | ⟨h1, h2⟩ <;> rcases k with ⟨k1, k2⟩ | ⟨k1, k2⟩
  · rw [h2, k2]
  · exact absurd h1 k1
  · exact absurd k1 h1
  · rw [h2, k2]

/-- what a function's form says -/
theorem begOk_form {p : List FnM} {k : Nat} {l : List Int} (hright : RightP p) (hk : k < p.length) (ha : (l.length : Int) = (fnAt p (k : Int)).args) : ∃ lo : Nat, (fnAt p (k : Int)).locals = (lo : Int) ∧ p[k].locals = (lo : Int) ∧ (fnAt p (k : Int)).locals.toNat = lo ∧ l.length ≤ lo ∧ lo ≤ 8 := by
  have hfn := fnAt_nat p k hk
  obtain ⟨hfo, _, _⟩ := ((hright.all).2.2 k hk).well rfl
  simp [formOk] at hfo
  refine ⟨(fnAt p (k : Int)).locals.toNat, ?_, ?_, rfl, ?_, ?_⟩
  · omega
  · rw [← hfn]; omega
  · omega
  · omega

theorem room_nil (own : Nat → Nat → Tag) (B : Nat) (w : World) (size : Nat) (t : Tag) : Room own B w (.slice none 0 0) size t := ⟨none, 0, 0, rfl, Nat.le_refl _, fun j hj => by omega⟩
theorem ownAr_nil (own : Nat → Nat → Tag) (B : Nat) (w : World) (Z : Nat → Value) : OwnAr own B w (.slice none 0 0) [] Z := ⟨by simp, ⟨none, 0, rfl⟩, room_nil _ _ _ _ _, fun i hi => absurd hi (Nat.not_lt_zero _), fun i hi => absurd hi (Nat.not_lt_zero _)⟩
theorem ownFr_nil (own : Nat → Nat → Tag) (B : Nat) (w : World) (X Y : Nat → Value) : OwnFr own B w (.slice none 0 0) [] X Y := ⟨by simp, ⟨none, 0, rfl⟩, room_nil _ _ _ _ _, fun i hi => absurd hi (Nat.not_lt_zero _), fun i hi => absurd hi (Nat.not_lt_zero _), fun i hi => absurd hi (Nat.not_lt_zero _)⟩

/-- one frame, laid in two blocks -/
theorem ownFr_one {B b g lo : Nat} {w : World} {f : Int} {l : List Int} (hb : B ≤ b) (hg : B ≤ g) (hne : g ≠ b) (hll : (newLocals lo l).length = lo) (hlo : lo ≤ 8)
    (hF : VRow w b [.int .i64 f, .int .i64 0, .slice (some ⟨g, 0, none⟩) lo lo, .slice (some ⟨g, lo, none⟩) 0 8]) (hV : VRow w g (ints (newLocals lo l ++ List.replicate 8 0))) :
    OwnFr (fun c j => if c = b then .fr else if j < lo then .loc 0 else .stk 0) B w (.slice (some ⟨b, 0, none⟩) 1 1) [⟨f, 0, newLocals lo l, []⟩] (fun _ => .slice (some ⟨g, 0, none⟩) lo lo) (fun _ => .slice (some ⟨g, lo, none⟩) 0 8) := by
  have hVl : (newLocals lo l ++ List.replicate 8 0).length = lo + 8 := by simp [hll]
  refine ⟨by simp, ⟨_, 1, rfl⟩, ⟨_, 1, 1, rfl, Nat.le_refl _, fun j hj => ⟨b, 0, rfl, hb, hF.1, ?_, ?_, by simp⟩⟩, fun i hi => ?_, fun i hi => ?_, fun i hi => ?_⟩
  · rw [Nat.zero_add, (hF.2 j (by simpa using hj)).1]; rfl
  · rw [Nat.zero_add]; exact (hF.2 j (by simpa using hj)).2
  · have hi0 : i = 0 := by simpa using hi
    subst hi0
    exact ⟨b, 0, 1, rfl, (hF.2 0 (by simp)).1, (hF.2 1 (by simp)).1, (hF.2 2 (by simp)).1, (hF.2 3 (by simp)).1⟩
  · have hi0 : i = 0 := by simpa using hi
    subst hi0
    refine ⟨⟨_, lo, by rw [show ([⟨f, 0, newLocals lo l, []⟩] : List FrM)[0].locals = newLocals lo l from rfl, hll], by rw [show ([⟨f, 0, newLocals lo l, []⟩] : List FrM)[0].locals = newLocals lo l from rfl, hll]; omega, fun j hj => ⟨g, 0, rfl, hg, hV.1, ?_⟩⟩, ⟨_, lo, lo, rfl, Nat.le_refl _, fun j hj => ⟨g, 0, rfl, hg, hV.1, ?_, ?_, ?_⟩⟩⟩
    · have hj' : j < (newLocals lo l).length := hj
      have h := (hV.2 j (by rw [ints_length, hVl]; omega)).1
      rw [Nat.zero_add, h]
      simp [ints, hj']
    · rw [Nat.zero_add, (hV.2 j (by rw [ints_length, hVl]; omega)).1]; rfl
    · rw [Nat.zero_add]; exact (hV.2 j (by rw [ints_length, hVl]; omega)).2
    · show (if g = b then Tag.fr else if 0 + j < lo then Tag.loc 0 else Tag.stk 0) = _
      rw [if_neg hne, if_pos (by omega)]
  · have hi0 : i = 0 := by simpa using hi
    subst hi0
    refine ⟨⟨_, 8, rfl, by simp, fun j hj => absurd hj (Nat.not_lt_zero _)⟩, ⟨_, 0, 8, rfl, by omega, fun j hj => ⟨g, lo, rfl, hg, hV.1, ?_, ?_, ?_⟩⟩⟩
    · rw [(hV.2 (lo + j) (by rw [ints_length, hVl]; omega)).1]; rfl
    · exact (hV.2 (lo + j) (by rw [ints_length, hVl]; omega)).2
    · show (if g = b then Tag.fr else if lo + j < lo then Tag.loc 0 else Tag.stk 0) = _
      rw [if_neg hne, if_neg (by omega)]

def BegTold (p : List FnM) (f : Int) (l : List Int) (fuel : Int) (w w' : World) (e : Ending) : Prop :=
  ∃ s A a D d E c own X Y Z, e = .returned (.agg #[.slice A s.frames.length a, .slice D s.heap.length d, .slice E s.out.length c, .int .i64 s.fuel, .bool s.done, .int .i64 s.value, .int .i64 s.trap]) ∧ BegIs p f l fuel s ∧ OwnSt own w.heap.size w' (.slice A s.frames.length a) (.slice D s.heap.length d) (.slice E s.out.length c) s X Y Z ∧ Below w.heap.size w w'

set_option maxRecDepth 100000 in
set_option maxHeartbeats 1600000 in
theorem implBegin {B : Nat} (vp v : Value) (p : List FnM) (f fuel : Int) (l : List Int) (w : World) (ht : Tab w) (hr : FnRow 0 w vp p) (hv : IRow B w v l) :
    Calls Tryd.prog 13 #[.agg #[vp], .int .i64 f, v, .int .i64 fuel] w fun e w' => BegTold p f l fuel w w' e := by
  have Hr : Hid (FnRow 0 w vp p) := hr
  have Hv : Hid (IRow B w v l) := hv
  have Ht : Hid (Tab w) := ht
  have hlen := hr.len
  have hll := hv.len
  obtain ⟨A, cap, rfl⟩ := hr.form
  obtain ⟨D, dap, rfl⟩ := hv.form
  clear hr hv ht
  obtain ⟨t0, t1, t2⟩ := boxes_new w #[.slice A p.length cap] #[.slice none 0 0, .slice none 0 0, .slice none 0 0, .int .i64 0, .bool false, .int .i64 0, .int .i64 0] 29 37
  have y1 := vrow_new (w.alloc (.cells #[.slice A p.length cap] 29)) #[.slice none 0 0, .slice none 0 0, .slice none 0 0, .int .i64 0, .bool false, .int .i64 0, .int .i64 0] 37
  rw [show (w.alloc (.cells #[.slice A p.length cap] 29)).heap.size = w.heap.size + 1 by simp] at y1
  have T0 : Hid (Box _ w.heap.size #[.slice A p.length cap]) := t0
  have T1 : Hid (VRow _ (w.heap.size + 1) _) := y1
  have T2 : Hid (Below w.heap.size w _) := t2
  clear t0 t1 t2 y1
  go_enter Tryd.func13, Tryd.ntmps13
  go_wp2_with fail
  refine (implIn _ p f _ (Ht.out.below T2.out) (Hr.out.below T2.out)).mono ?_
  rintro e w1 ⟨b, rfl, hb1, hiff⟩
  have Hb1 : Hid (Below w.heap.size w w1) := T2.out.trans (hb1.mono T2.out.size)
  have B0 : Hid (Box w1 w.heap.size #[.slice A p.length cap]) := T0.out.below hb1
  have B1 : Hid (VRow w1 (w.heap.size + 1) [.slice none 0 0, .slice none 0 0, .slice none 0 0, .int .i64 0, .bool false, .int .i64 0, .int .i64 0]) := T1.out.below hb1
  have HZ : Hid (∀ W, VRow W (w.heap.size + 1) [.slice none 0 0, .slice none 0 0, .slice none 0 0, .int .i64 0, .bool false, .int .i64 0, .int .i64 0] → W.cell? ⟨w.heap.size + 1, 0, none⟩ = some (.slice none 0 0) ∧ W.cell? ⟨w.heap.size + 1, 1, none⟩ = some (.slice none 0 0) ∧ W.cell? ⟨w.heap.size + 1, 2, none⟩ = some (.slice none 0 0) ∧ W.cell? ⟨w.heap.size + 1, 3, none⟩ = some (.int .i64 0) ∧ W.cell? ⟨w.heap.size + 1, 4, none⟩ = some (.bool false) ∧ W.cell? ⟨w.heap.size + 1, 5, none⟩ = some (.int .i64 0) ∧ W.cell? ⟨w.heap.size + 1, 6, none⟩ = some (.int .i64 0) ∧
      W.frozen? ⟨w.heap.size + 1, 0, none⟩ = false ∧ W.frozen? ⟨w.heap.size + 1, 1, none⟩ = false ∧ W.frozen? ⟨w.heap.size + 1, 2, none⟩ = false ∧ W.frozen? ⟨w.heap.size + 1, 3, none⟩ = false ∧ W.frozen? ⟨w.heap.size + 1, 4, none⟩ = false ∧ W.frozen? ⟨w.heap.size + 1, 5, none⟩ = false ∧ W.frozen? ⟨w.heap.size + 1, 6, none⟩ = false ∧ w.heap.size + 1 < W.heap.size) := fun W h =>
    ⟨(h.2 0 (by simp)).1, (h.2 1 (by simp)).1, (h.2 2 (by simp)).1, (h.2 3 (by simp)).1, (h.2 4 (by simp)).1, (h.2 5 (by simp)).1, (h.2 6 (by simp)).1, (h.2 0 (by simp)).2, (h.2 1 (by simp)).2, (h.2 2 (by simp)).2, (h.2 3 (by simp)).2, (h.2 4 (by simp)).2, (h.2 5 (by simp)).2, (h.2 6 (by simp)).2, h.1⟩
  obtain ⟨c0, c1, c2, c3, c4, c5, c6, f0, f1, f2, f3, f4, f5, f6, z1⟩ := HZ.out w1 B1.out
  have q0 := B0.out.at0
  have z0 := B0.out.1
  clear hb1 T0 T1 T2
  cases b with
  | false =>
    have HB : Hid (BegIs p f l fuel zeroS) := .inr ⟨fun h => by have := hiff.2 ⟨h.1, h.2.1⟩; simp at this, rfl⟩
    clear hiff
    go_wp2_with fail
    refine bodyPost_ret (v := .agg #[.slice none 0 0, .slice none 0 0, .slice none 0 0, .int .i64 0, .bool false, .int .i64 0, .int .i64 0]) (by simp [results, Tryd.results13, go_sem, c0, c1, c2, c3, c4, c5, c6]) rfl
      ⟨zeroS, none, 0, none, 0, none, 0, fun _ _ => .no, fun _ => .slice none 0 0, fun _ => .slice none 0 0, fun _ => .slice none 0 0, rfl, HB.out, ⟨ownFr_nil _ _ _ _ _, ownAr_nil _ _ _ _, irow_nil _ _, room_nil _ _ _ _ _⟩, ?_⟩
    iterate 7 (refine Below.setCell ?_ (by simp) _)
    exact Hb1.out
  | true =>
    obtain ⟨hright, hin⟩ := hiff.1 rfl
    have hin2 := inL_iff.1 hin
    obtain ⟨k, rfl⟩ := Int.eq_ofNat_of_zero_le hin2.1
    have hk : k < p.length := by omega
    have hkl : (k : Int) < p.length := by omega
    have HR : Hid (RightP p ∧ inL (k : Int) p.length = true) := ⟨hright, hin⟩
    obtain ⟨bp, op, xp, rfl, hltp, e0, -, -, -⟩ := (Hr.out.below Hb1.out).at k hk
    have hfn := fnAt_nat p k hk
    rw [← hfn] at e0
    obtain ⟨ar, har⟩ : ∃ ar, ar = (fnAt p (k : Int)).args := ⟨_, rfl⟩
    rw [← har] at e0
    clear hiff hright hin hin2
    by_cases hla : (l.length : Int) = ar
    case neg =>
      have HB : Hid (BegIs p k l fuel zeroS) := .inr ⟨fun h => hla (by rw [har]; exact h.2.2.1), rfl⟩
      have hne : ((l.length : Int) != ar) = true := by simpa using hla
      clear hfn har
      go_wp2_with fail
      refine bodyPost_ret (v := .agg #[.slice none 0 0, .slice none 0 0, .slice none 0 0, .int .i64 0, .bool false, .int .i64 0, .int .i64 0]) (by simp [results, Tryd.results13, go_sem, c0, c1, c2, c3, c4, c5, c6]) rfl
        ⟨zeroS, none, 0, none, 0, none, 0, fun _ _ => .no, fun _ => .slice none 0 0, fun _ => .slice none 0 0, fun _ => .slice none 0 0, rfl, HB.out, ⟨ownFr_nil _ _ _ _ _, ownAr_nil _ _ _ _, irow_nil _ _, room_nil _ _ _ _ _⟩, ?_⟩
      iterate 7 (refine Below.setCell ?_ (by simp) _)
      exact Hb1.out
    have hne : ((l.length : Int) != ar) = false := by simpa using hla
    obtain ⟨lo, hlo1, hlo2, hlo3, hlo4, hlo5⟩ := begOk_form HR.out.1 hk (hla.trans har)
    have Hla : Hid ((l.length : Int) = (fnAt p (k : Int)).args) := hla.trans har
    have Hlo3 : Hid ((fnAt p (k : Int)).locals.toNat = lo) := hlo3
    clear hla har hfn
    go_wp2_with fail
    refine (implFuel fuel _).mono ?_
    rintro e w9 ⟨rfl, hw9⟩
    subst w9
    obtain ⟨bf, hbf⟩ : ∃ bf, bf = (decide (0 ≤ fuel) && decide (fuel ≤ 3000)) := ⟨_, rfl⟩
    rw [← hbf]
    cases bf with
    | false =>
      have HB : Hid (BegIs p k l fuel zeroS) := .inr ⟨fun h => by rw [decide_eq_true h.2.2.2.1, decide_eq_true h.2.2.2.2] at hbf; simp at hbf, rfl⟩
      clear hbf
      go_wp2_with fail
      refine bodyPost_ret (v := .agg #[.slice none 0 0, .slice none 0 0, .slice none 0 0, .int .i64 0, .bool false, .int .i64 0, .int .i64 0]) (by simp [results, Tryd.results13, go_sem, c0, c1, c2, c3, c4, c5, c6]) rfl
        ⟨zeroS, none, 0, none, 0, none, 0, fun _ _ => .no, fun _ => .slice none 0 0, fun _ => .slice none 0 0, fun _ => .slice none 0 0, rfl, HB.out, ⟨ownFr_nil _ _ _ _ _, ownAr_nil _ _ _ _, irow_nil _ _, room_nil _ _ _ _ _⟩, ?_⟩
      iterate 7 (refine Below.setCell ?_ (by simp) _)
      exact Hb1.out
    | true =>
      have hfu : 0 ≤ fuel ∧ fuel ≤ 3000 := by simpa using hbf.symm
      have HB : Hid (BegIs p k l fuel (begS k lo l fuel)) := .inl ⟨⟨HR.out.1, HR.out.2, Hla.out, hfu.1, hfu.2⟩, by rw [Hlo3.out]⟩
      have hN := implNew (.slice (some ⟨bp, op, none⟩) p.length cap) (.slice D l.length dap) p k lo l w1 (Hr.out.below Hb1.out) hk hlo2 (Hv.out.below Hb1.out) hlo4 (by omega)
      have HN : Hid (Calls Tryd.prog 37 #[.agg #[.slice (some ⟨bp, op, none⟩) p.length cap], .int .i64 k, .slice D l.length dap] w1 fun e w' => NewTold k lo l w1 w' e) := hN
      clear hbf hN hlo1 hlo2 hlo3 e0
      go_wp2_with fail
      refine Calls.mono (R := fun e w' => NewTold k lo l w1 w' e) HN.out ?_
      rintro e w2 ⟨g, rfl, hg, hV, hb2⟩
      have B2 := B1.out.below hb2
      obtain ⟨c0, c1, c2, c3, c4, c5, c6, f0, f1, f2, f3, f4, f5, f6, z1⟩ := HZ.out w2 B2
      have HV : Hid (VRow w2 g (ints (newLocals lo l ++ List.replicate 8 0))) := hV
      have Hb2 : Hid (Below w.heap.size w w2) := Hb1.out.trans (hb2.mono Hb1.out.size)
      have hgw : g < w2.heap.size := hV.1
      have hg1 : w.heap.size + 1 < g := Nat.lt_of_lt_of_le B1.out.1 hg
      clear hV hb2 B2 HN
      go_wp2_with fail
      obtain ⟨W7, hW7⟩ : ∃ W7, W7 = ((((((w2.setCell ⟨w.heap.size + 1, 0, none⟩ (.slice (some ⟨w2.heap.size, 0, none⟩) 1 1)).setCell ⟨w.heap.size + 1, 1, none⟩ (.slice none 0 0)).setCell ⟨w.heap.size + 1, 2, none⟩ (.slice none 0 0)).setCell ⟨w.heap.size + 1, 3, none⟩ (.int .i64 fuel)).setCell ⟨w.heap.size + 1, 4, none⟩ (.bool false)).setCell ⟨w.heap.size + 1, 5, none⟩ (.int .i64 0)).setCell ⟨w.heap.size + 1, 6, none⟩ (.int .i64 0) := ⟨_, rfl⟩
      have hs7 : W7.heap.size = w2.heap.size := by rw [hW7]; simp
      have hV7 : VRow W7 g (ints (newLocals lo l ++ List.replicate 8 0)) := by
        rw [hW7]
        iterate 7 (refine VRow.set_far ?_ _ _ (by show w.heap.size + 1 ≠ g; omega))
        exact HV.out
      have hb7 : Below w.heap.size w W7 := by
        rw [hW7]
        iterate 7 (refine Below.setCell ?_ (by simp) _)
        exact Hb2.out
      have hal : Below W7.heap.size W7 (W7.alloc (.cells #[.int .i64 k, .int .i64 0, .slice (some ⟨g, 0, none⟩) lo lo, .slice (some ⟨g, lo, none⟩) 0 8] 71)) := (Below.refl _ _).alloc (Nat.le_refl _) _
      have hF := vrow_new W7 #[.int .i64 k, .int .i64 0, .slice (some ⟨g, 0, none⟩) lo lo, .slice (some ⟨g, lo, none⟩) 0 8] 71
      rw [hs7] at hF
      have hnl : (newLocals lo l).length = lo := by simp [newLocals]; omega
      have hfr := ownFr_one (B := w.heap.size) (b := w2.heap.size) (g := g) (lo := lo) (f := (k : Int)) (l := l) (by omega) (by omega) (by omega) hnl hlo5 hF (hV7.below hal)
      have hbW := hb7.trans (hal.mono hb7.size)
      rw [hW7] at hfr hbW
      exact bodyPost_ret (v := .agg #[.slice (some ⟨w2.heap.size, 0, none⟩) 1 1, .slice none 0 0, .slice none 0 0, .int .i64 fuel, .bool false, .int .i64 0, .int .i64 0]) (by simp [results, Tryd.results13, go_sem, c0, c1, c2, c3, c4, c5, c6, z1]) rfl
        ⟨begS k lo l fuel, some ⟨w2.heap.size, 0, none⟩, 1, none, 0, none, 0, _, _, _, fun _ => .slice none 0 0, rfl, HB.out, ⟨hfr, ownAr_nil _ _ _ _, irow_nil _ _, room_nil _ _ _ _ _⟩, hbW⟩
end Go.Proofs.YtfaameimocjaiaaDoor
