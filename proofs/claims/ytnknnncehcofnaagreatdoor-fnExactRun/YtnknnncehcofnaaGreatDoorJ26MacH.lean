/- Doings: giveBack. A step of a right state leaves it right: put together. Each doing is the step's. -/
import Derived.Test.YtnknnncehcofnaaGreatDoorJ23MacF
import Derived.Test.YtnknnncehcofnaaGreatDoorJ13RightP6
import Derived.Test.YtnknnncehcofnaaGreatDoorJ22MacO
import Derived.Test.YtnknnncehcofnaaGreatDoorMacC
import Derived.Test.YtnknnncehcofnaaGreatDoorJ24MacL
namespace Go.Proofs.YtnknnncehcofnaaGreatDoor
open Go.RowKit

set_option maxRecDepth 100000 in
set_option maxHeartbeats 3200000 in
theorem doRetEnd (B m : Nat) (vp : PV) (s : StM) (f : FrM) (st : List Int) (a op x : Int) (w : World) (hM : MacI B m vp w s) (hs : s.frames = [f]) (hst : f.stack = st ++ [a]) (hk : f.stack.length ≤ 1048575) :
    Doing 130 B m vp op x (endedM s a 0) 0 w := by
  obtain ⟨own, V, C, W, hW, M, ho, hB, hb⟩ := hM.enter op x
  have Hb : Hid (Below B w W) := hb
  have HP : Hid (Calls Tryz.prog 181 #[.pointer (some ⟨m, 0, none⟩), .int .i64 1] W fun e w' => TakeTold B m vp own (onTop s [] ⟨f.func, f.pc, f.locals, st⟩) [a] W w' e) := implTake B m vp own V C s [] f st [a] W M hs hst (by omega) (by simp)
  clear hM hs hst M hB hb hk ho
  unfold Doing
  go_enter Tryz.func130, Tryz.ntmps130
  go_wp2_with fail
  rw [← hW]
  clear hW
  refine Calls.mono (R := fun e w' => TakeTold B m vp own (onTop s [] ⟨f.func, f.pc, f.locals, st⟩) [a] W w' e) HP.out ?_
  rintro e w1 ⟨At, V2, C2, rfl, M1, hr, h2, -⟩
  obtain ⟨b0, o0, rfl, hlt, r0⟩ := taken1 hr
  obtain ⟨b, off, cap, c1, -⟩ := M1.topI (low := []) (f := ⟨f.func, f.pc, f.locals, st⟩) rfl
  have hm := M1.lt
  have Hb1 : Hid (Below B w w1) := Hb.out.trans h2
  have HE : Hid (Calls Tryz.prog 121 #[.pointer (some ⟨m, 1, none⟩), .int .i64 a, .int .i64 0] w1 fun e w' => MacTold B m vp (endedM s a 0) (.tuple #[]) w1 w' e) := implEnd B m vp (onTop s [] ⟨f.func, f.pc, f.locals, st⟩) a 0 w1 ⟨_, _, _, M1⟩
  clear M1 hr h2 HP
  go_wp2_with fail
  refine Calls.mono (R := fun e w' => MacTold B m vp (endedM s a 0) (.tuple #[]) w1 w' e) HE.out ?_
  rintro e w2 ⟨rfl, h1, h2⟩
  have H2 : Hid (MacI B m vp w2 (endedM s a 0) ∧ Below B w w2) := ⟨h1, Hb1.out.trans h2⟩
  clear h1 h2 HE
  go_wp2_with fail
  go_ret
  exact ⟨rfl, H2.out.1, H2.out.2⟩

set_option maxRecDepth 100000 in
set_option maxHeartbeats 3200000 in
theorem doRet (B m : Nat) (vp : PV) (s : StM) (low : List FrM) (g f : FrM) (st : List Int) (a op x : Int) (w : World) (hM : MacI B m vp w s) (hs : s.frames = low ++ [g, f]) (hst : f.stack = st ++ [a]) (hk : f.stack.length ≤ 1048575) (hg : g.stack.length ≤ 1048575) (hl : low.length ≤ 1048574) :
    Doing 130 B m vp op x (onTop s low ⟨g.func, g.pc, g.locals, g.stack ++ [a]⟩) 0 w := by
  obtain ⟨own, V, C, W, hW, M, ho, hB, hb⟩ := hM.enter op x
  have Hb : Hid (Below B w W) := hb
  have hs2 : s.frames = (low ++ [g]) ++ [f] := by rw [hs]; simp
  have hlg : (low ++ [g]).length = low.length + 1 := by simp
  have HP : Hid (Calls Tryz.prog 181 #[.pointer (some ⟨m, 0, none⟩), .int .i64 1] W fun e w' => TakeTold B m vp own (onTop s (low ++ [g]) ⟨f.func, f.pc, f.locals, st⟩) [a] W w' e) := implTake B m vp own V C s (low ++ [g]) f st [a] W M hs2 hst (by omega) (by omega)
  clear hM hs hst M hB hb hk ho hs2
  unfold Doing
  go_enter Tryz.func130, Tryz.ntmps130
  go_wp2_with fail
  rw [← hW]
  clear hW
  refine Calls.mono (R := fun e w' => TakeTold B m vp own (onTop s (low ++ [g]) ⟨f.func, f.pc, f.locals, st⟩) [a] W w' e) HP.out ?_
  rintro e w1 ⟨At, V2, C2, rfl, M1, hr, h2, -⟩
  obtain ⟨b0, o0, rfl, hlt, r0⟩ := taken1 hr
  obtain ⟨b, off, cap, c1, T, -⟩ := M1.topI (low := low ++ [g]) (f := ⟨f.func, f.pc, f.locals, st⟩) rfl
  have hcap : low.length + 1 + 1 ≤ cap := by
    have := ((M1.l.row .fr trivial).len T.slice).2
    omega
  have f1 := (M1.cs 0 (by omega)).2
  rw [hlg] at c1
  have hm := M1.lt
  have Hb1 : Hid (Below B w w1) := Hb.out.trans h2
  have HD : Hid (MacI B m vp (w1.setCell ⟨m, 1, none⟩ (.slice (some ⟨b, off, none⟩) (low.length + 1) cap)) { s with frames := low ++ [g] } ∧ Below B w1 (w1.setCell ⟨m, 1, none⟩ (.slice (some ⟨b, off, none⟩) (low.length + 1) cap))) := by
    obtain ⟨C3, M3, h3⟩ := M1.dropFrame rfl T.slice (by simp [onTop]) (low.length + 1) (by rw [hlg]; omega)
    have e : (onTop s (low ++ [g]) ⟨f.func, f.pc, f.locals, st⟩).frames.take (low.length + 1) = low ++ [g] := by
      show ((low ++ [g]) ++ [_]).take (low.length + 1) = low ++ [g]
      rw [← hlg, List.take_left' rfl]
    rw [e] at M3
    exact ⟨⟨_, _, _, M3⟩, h3⟩
  have HPt : Hid (Calls Tryz.prog 180 #[.pointer (some ⟨m, 0, none⟩), .int .i64 a] (w1.setCell ⟨m, 1, none⟩ (.slice (some ⟨b, off, none⟩) (low.length + 1) cap)).drew fun e w' => MacTold B m vp (onTop s low ⟨g.func, g.pc, g.locals, g.stack ++ [a]⟩) (.tuple #[]) (w1.setCell ⟨m, 1, none⟩ (.slice (some ⟨b, off, none⟩) (low.length + 1) cap)).drew w' e) := by
    obtain ⟨⟨own3, V3, C3, M3⟩, -⟩ := HD.out
    exact implPutN B m vp { s with frames := low ++ [g] } low g a _ ⟨own3, V3, C3, M3.below (Below.refl _ _).drew⟩ rfl (by omega) (by omega)
  have hn : low.length ≤ 1048574 := hl
  have hw1 : IntKind.i64.wrap (((low.length + 1 + 1 : Nat) : Int) - 1) = (low.length : Int) + 1 := by rw [IntKind.wrap_i64]; omega
  have hw2 : IntKind.i64.wrap ((low.length : Int) + 1 + 1 - 1) = (low.length : Int) + 1 := by rw [IntKind.wrap_i64]; omega
  have hw3 : IntKind.i64.wrap ((low.length : Int) + 1) = (low.length : Int) + 1 := by rw [IntKind.wrap_i64]; omega
  have hw4 : ((low.length : Int) + 1).toNat = low.length + 1 := by omega
  clear M1 T hr h2 HP
  go_wp2_with fail
  go_region
  all_goals
    go_wp2_with fail
    refine Calls.mono (R := fun e w' => MacTold B m vp (onTop s low ⟨g.func, g.pc, g.locals, g.stack ++ [a]⟩) (.tuple #[]) (w1.setCell ⟨m, 1, none⟩ (.slice (some ⟨b, off, none⟩) (low.length + 1) cap)).drew w' e) HPt.out ?_
    rintro e w2 ⟨rfl, h1, h2⟩
    have H2 : Hid (MacI B m vp w2 (onTop s low ⟨g.func, g.pc, g.locals, g.stack ++ [a]⟩) ∧ Below B w w2) := ⟨h1, Hb1.out.trans ((HD.out.2.drew).trans h2)⟩
    clear h1 h2 HPt
    go_wp2_with fail
    go_ret
    exact ⟨rfl, H2.out.1, H2.out.2⟩
end Go.Proofs.YtnknnncehcofnaaGreatDoor

namespace Go.Proofs.YtnknnncehcofnaaGreatDoor
open Go.RowKit

theorem puts_oneM (op : Int) (h : (10 ≤ op ∧ op ≤ 29) ∨ op = 34 ∨ op = 35 ∨ op = 37) : putsM op = 1 := by
  obtain ⟨k, rfl⟩ := Int.eq_ofNat_of_zero_le (show 0 ≤ op by omega)
  have : ∀ k : Fin 39, ((10 ≤ k.1 ∧ k.1 ≤ 29) ∨ k.1 = 34 ∨ k.1 = 35 ∨ k.1 = 37) → (opN k.1).2.2.2 = 1 := by decide
  unfold putsM opRow
  rw [if_pos (by omega)]
  simpa using this ⟨k, by omega⟩ (by simp only; omega)

theorem Stand.cut {p : List FnM} {s : StM} {low : List FrM} {f : FrM} {i j : Nat} {hs : List Int} (h : Stand p s low f i j hs) (k : Nat) (hk : k = f.stack.length - (takesM p (insAt (fnAt p i).code j).1 (insAt (fnAt p i).code j).2).toNat) :
    ((f.stack.take k).length : Int) = f.stack.length - takesM p (insAt (fnAt p i).code j).1 (insAt (fnAt p i).code j).2 ∧ ((f.stack.drop k).length : Int) = takesM p (insAt (fnAt p i).code j).1 (insAt (fnAt p i).code j).2 := by
  have h1 := h.good.1
  have h2 := takesM_range h.right.args (insAt (fnAt p i).code j).1 (insAt (fnAt p i).code j).2
  have h3 := h.height
  rw [List.length_take, List.length_drop]
  omega

theorem stepM_right {p : List FnM} {s : StM} (h : StRightI p s) (hg : goesM s = true) : StRightI p (stepM p s) := by
  obtain ⟨low, f, i, j, hs, S⟩ := stand h hg
  obtain ⟨e1, e2, e3⟩ := S.top
  obtain ⟨op, x, hop⟩ : ∃ op x, insAt (fnAt p i).code j = (op, x) := ⟨_, _, rfl⟩
  have hins := S.ins
  have hcut := S.cut _ rfl
  have hnext := goes_next j (insAt (fnAt p i).code j)
  have hjump := goes_jump j (insAt (fnAt p i).code j)
  rw [hop] at hins hnext hjump hcut
  simp only at hins hnext hjump hcut
  have hro := right_op hins
  have hpc : f.pc = (j : Int) := S.pc
  have hW := fun t l st hp o a b c d e => S.withM t l st hp o a b c d (by rw [hop]; exact e)
  rw [hop] at hW
  simp only at hW
  unfold stepM
  dsimp only
  rw [e1, e2, e3, hop]
  simp only
  obtain ⟨k, hk⟩ : ∃ k, k = f.stack.length - (takesM p op x).toNat := ⟨_, rfl⟩
  rw [← hk] at hcut ⊢
  obtain ⟨hc1, hc2⟩ := hcut
  have hout : s.out.length ≤ s.out.length + 1 := by omega
  by_cases h1 : op = 1
  · rw [if_pos h1]
    subst h1
    exact hW (f.pc + 1) f.locals (f.stack.take k ++ [x]) s.heap s.out S.heap hout (by rw [hpc]; exact hnext (by omega)) rfl (by rw [List.length_append]; simp only [List.length_singleton]; rw [show putsM 1 = 1 from rfl]; omega)
  rw [if_neg h1]
  by_cases h2 : op = 2
  · rw [if_pos h2]
    subst h2
    exact hW (f.pc + 1) f.locals (f.stack.take k ++ [f.locals.getD x.toNat 0]) s.heap s.out S.heap hout (by rw [hpc]; exact hnext (by omega)) rfl (by rw [List.length_append]; simp only [List.length_singleton]; rw [show putsM 2 = 1 from rfl]; omega)
  rw [if_neg h2]
  by_cases h3 : op = 3
  · rw [if_pos h3]
    subst h3
    exact hW (f.pc + 1) (f.locals.set x.toNat _) (f.stack.take k) s.heap s.out S.heap hout (by rw [hpc]; exact hnext (by omega)) (by simp) (by rw [show putsM 3 = 0 from rfl]; omega)
  rw [if_neg h3]
  by_cases h4 : op = 4
  · rw [if_pos h4]
    subst h4
    exact hW (f.pc + 1) f.locals (f.stack.take k ++ [_, _]) s.heap s.out S.heap hout (by rw [hpc]; exact hnext (by omega)) rfl (by rw [List.length_append]; simp only [List.length_cons, List.length_nil]; rw [show putsM 4 = 2 from rfl]; omega)
  rw [if_neg h4]
  by_cases h5 : op = 5
  · rw [if_pos h5]
    subst h5
    exact hW (f.pc + 1) f.locals (f.stack.take k) s.heap s.out S.heap hout (by rw [hpc]; exact hnext (by omega)) rfl (by rw [show putsM 5 = 0 from rfl]; omega)
  rw [if_neg h5]
  by_cases h30 : op = 30
  · rw [if_pos h30]
    subst h30
    exact hW x f.locals (f.stack.take k) s.heap s.out S.heap hout (hjump (.inl rfl)) rfl (by rw [show putsM 30 = 0 from rfl]; omega)
  rw [if_neg h30]
  by_cases h31 : op = 31
  · rw [if_pos h31]
    subst h31
    refine hW _ f.locals (f.stack.take k) s.heap s.out S.heap hout ?_ rfl (by rw [show putsM 31 = 0 from rfl]; omega)
    split
    · exact hjump (.inr rfl)
    · rw [hpc]; exact hnext (by omega)
  rw [if_neg h31]
  by_cases h32 : op = 32
  · rw [if_pos h32]
    subst h32
    have hx : 0 ≤ x ∧ x < p.length := by
      unfold rightM at hins
      rw [Bool.and_eq_true, if_neg (by omega), if_neg (by omega), if_neg (by omega), if_pos rfl] at hins
      exact inL_iff.1 hins.2
    obtain ⟨y, rfl⟩ := Int.eq_ofNat_of_zero_le hx.1
    have hy : y < p.length := by omega
    have hlen : s.frames.length = low.length + 1 := by rw [S.frames]; simp
    by_cases h10 : s.frames.length < 10
    · rw [if_pos h10]
      obtain ⟨w1, _, _⟩ := ((S.right.all.2.2 y hy).well rfl)
      simp [formOk] at w1
      have htk : takesM p 32 (y : Int) = (fnAt p y).args := by unfold takesM; rw [if_pos rfl, if_pos hx]
      have hcl : ((callLocals (fnAt p y).locals.toNat (f.stack.drop k)).length : Int) = (fnAt p y).locals := by
        unfold callLocals
        rw [List.length_append, List.length_replicate]
        omega
      refine S.all _ rfl S.heap hout ?_ fun q hq => ?_
      · show toldOk ⟨low ++ [_, _], s.heap, s.out, s.fuel - 1, s.done, s.value, s.trap⟩ = true
        obtain ⟨d1, d2, d3⟩ := S.told
        unfold toldOk
        rw [d1, d2, d3]
        simp
        omega
      · show FrOkI p (low ++ [⟨f.func, f.pc + 1, f.locals, f.stack.take k⟩, ⟨(y : Int), 0, callLocals (fnAt p y).locals.toNat (f.stack.drop k), []⟩]) q
        have hq' : q < low.length + 2 := by
          have : q < (low ++ [⟨f.func, f.pc + 1, f.locals, f.stack.take k⟩, ⟨(y : Int), 0, callLocals (fnAt p y).locals.toNat (f.stack.drop k), []⟩] : List FrM).length := hq
          simpa using this
        by_cases hq1 : q < low.length
        · exact S.keep ⟨f.func, f.pc + 1, f.locals, f.stack.take k⟩ _ rfl q hq1
        by_cases hq2 : q = low.length
        · subst hq2
          have hg := S.good
          obtain ⟨g1, g2, g3⟩ := hg
          have hj1 := g3 ((j : Int) + 1) (by rw [hop]; exact hnext (by omega))
          have hh := S.height
          have h8 := S.h8
          obtain ⟨l1, l2⟩ := leaves_plain S.right.args (hh := hs.getD j 0) (i := insAt (fnAt p i).code j) (by omega) (by omega) g1
          rw [hop] at l1 hj1 l2
          simp only at l1
          rw [show putsM 32 = 1 from rfl] at l1
          rw [show ((j : Int) + 1).toNat = j + 1 by omega] at hj1
          refine ⟨⟨f.func, f.pc + 1, f.locals, f.stack.take k⟩, by simp, by rw [inL_iff, S.func]; have := S.hi; omega, hs, by show HsOf p (f.func).toNat hs; rw [S.func]; exact S.hts, ?_⟩
          have hnx : nextF (low ++ [⟨f.func, f.pc + 1, f.locals, f.stack.take k⟩, ⟨(y : Int), 0, callLocals (fnAt p y).locals.toNat (f.stack.drop k), []⟩]) low.length = some (y : Int) := by
            unfold nextF
            rw [List.getElem?_append_right (by omega)]
            simp
          rw [hnx]
          unfold standsI
          simp only [Bool.and_eq_true, decide_eq_true_eq]
          rw [show fnAt p f.func = fnAt p i by rw [S.func], hpc, show ((j : Int) + 1).toNat = j + 1 by omega, Nat.add_sub_cancel]
          have hcode : (fnAt p i).code.getD j (0, 0) = (32, (y : Int)) := hop
          refine ⟨⟨⟨⟨by omega, hj1.1⟩, by omega⟩, S.loc⟩, ⟨⟨by omega, by omega⟩, hcode⟩, by omega⟩
        · have hq3 : q = low.length + 1 := by omega
          subst hq3
          obtain ⟨hs', b1, b2, b3, b4, _, _⟩ := S.right.heights y hy
          refine ⟨⟨(y : Int), 0, callLocals (fnAt p y).locals.toNat (f.stack.drop k), []⟩, by rw [List.getElem?_append_right (by omega)]; simp, by rw [inL_iff]; exact hx, hs', (by show HsOf p ((y : Int)).toNat hs'; rw [Int.toNat_natCast]; exact b1), ?_⟩
          have hnx : nextF (low ++ [⟨f.func, f.pc + 1, f.locals, f.stack.take k⟩, ⟨(y : Int), 0, callLocals (fnAt p y).locals.toNat (f.stack.drop k), []⟩]) (low.length + 1) = none := by
            unfold nextF
            rw [List.getElem?_eq_none (by simp)]; rfl
          rw [hnx]
          unfold standsI
          simp only [Bool.and_eq_true, decide_eq_true_eq]
          have z0 : hs'.getD (0 : Int).toNat 0 = 0 := b4
          rw [z0]
          refine ⟨⟨⟨⟨by omega, by omega⟩, by omega⟩, hcl⟩, rfl⟩
    · rw [if_neg h10]
      exact S.trap _ _ S.heap (by omega)
  rw [if_neg h32]
  by_cases h33 : op = 33
  · rw [if_pos h33]
    subst h33
    by_cases hl : low = []
    · rw [if_pos hl]
      refine S.all _ rfl S.heap hout ?_ fun q hq => absurd hq (by simp)
      show toldOk ⟨[], s.heap, s.out, s.fuel - 1, true, _, s.trap⟩ = true
      unfold toldOk
      rw [S.told.2.2]
      simp
    · rw [if_neg hl]
      obtain ⟨low', g, rfl⟩ : ∃ low' g, low = low' ++ [g] := ⟨low.dropLast, low.getLast hl, (List.dropLast_concat_getLast hl).symm⟩
      have hten := S.ten
      simp only [List.length_append, List.length_singleton] at hten
      have eg : (low' ++ [g]).getLastD ⟨0, 0, [], []⟩ = g := by simp
      have ed : (low' ++ [g]).dropLast = low' := by simp
      rw [eg, ed]
      refine S.all _ rfl S.heap hout ?_ fun q hq => ?_
      · show toldOk ⟨low' ++ [_], s.heap, s.out, s.fuel - 1, s.done, s.value, s.trap⟩ = true
        obtain ⟨d1, d2, d3⟩ := S.told
        unfold toldOk
        rw [d1, d2, d3]
        simp
        omega
      · show FrOkI p (low' ++ [⟨g.func, g.pc, g.locals, g.stack ++ [_]⟩]) q
        have hq' : q < low'.length + 1 := by
          have : q < (low' ++ [⟨g.func, g.pc, g.locals, g.stack ++ [(f.stack.drop k).getD 0 0]⟩] : List FrM).length := hq
          simpa using this
        by_cases hq1 : q < low'.length
        · refine (S.lows q (by simp; omega)).same ?_ ?_
          · rw [S.frames, List.getElem?_append_left hq1, List.append_assoc, List.getElem?_append_left hq1]
          · unfold nextF
            rw [S.frames, List.append_assoc]
            by_cases he : q + 1 < low'.length
            · rw [List.getElem?_append_left he, List.getElem?_append_left he]
            · have : q + 1 = low'.length := by omega
              rw [this]
              simp
        · have hq2 : q = low'.length := by omega
          subst hq2
          obtain ⟨g2, a1, a2, hs2, a3, a4⟩ := S.lows low'.length (by simp)
          have hg2 : g2 = g := by
            rw [S.frames, List.append_assoc, List.getElem?_append_right (Nat.le_refl _)] at a1
            simpa using a1.symm
          subst hg2
          have hnx : nextF s.frames low'.length = some f.func := by
            unfold nextF
            rw [S.frames, List.append_assoc, List.getElem?_append_right (by omega)]
            simp
          rw [hnx] at a4
          unfold standsI at a4
          simp only [Bool.and_eq_true, decide_eq_true_eq] at a4
          refine ⟨⟨g2.func, g2.pc, g2.locals, g2.stack ++ [(f.stack.drop k).getD 0 0]⟩, by simp, a2, hs2, a3, ?_⟩
          have hnx2 : nextF (low' ++ [⟨g2.func, g2.pc, g2.locals, g2.stack ++ [(f.stack.drop k).getD 0 0]⟩]) low'.length = none := by
            unfold nextF
            rw [List.getElem?_eq_none (by simp)]; rfl
          rw [hnx2]
          unfold standsI
          simp only [Bool.and_eq_true, decide_eq_true_eq, List.length_append, List.length_singleton]
          refine ⟨a4.1, by have := a4.2.2; omega⟩
  rw [if_neg h33]
  by_cases h38 : op = 38
  · rw [if_pos h38]
    subst h38
    exact hW (f.pc + 1) f.locals (f.stack.take k) s.heap (s.out ++ [_]) S.heap (by simp) (by rw [hpc]; exact hnext (by omega)) rfl (by rw [show putsM 38 = 0 from rfl]; omega)
  rw [if_neg h38]
  have hhp := doM_heap op (f.stack.drop k) s.heap S.heap.1 S.heap.2
  by_cases ht : (doM op (f.stack.drop k) s.heap).1.2 ≠ 0
  · rw [if_pos ht]
    exact S.trap _ _ hhp (doM_trap _ _ _ ht)
  · rw [if_neg ht]
    refine hW (f.pc + 1) f.locals _ (doM op (f.stack.drop k) s.heap).2 s.out hhp hout (by rw [hpc]; exact hnext (by omega)) rfl ?_
    by_cases h36 : op = 36
    · rw [if_pos h36]
      subst h36
      rw [show putsM 36 = 0 from rfl]; omega
    · rw [if_neg h36, List.length_append, puts_oneM op (by omega)]
      simp only [List.length_singleton]
      omega
end Go.Proofs.YtnknnncehcofnaaGreatDoor

namespace Go.Proofs.YtnknnncehcofnaaGreatDoor
open Go.RowKit

/-- the state that a doing begins with -/
def midM (s : StM) (low : List FrM) (f : FrM) : StM := ⟨low ++ [⟨f.func, f.pc + 1, f.locals, f.stack⟩], s.heap, s.out, s.fuel - 1, s.done, s.value, s.trap⟩

/-- .. and what becomes of its answer -/
def behindT (s : StM) (t : Int) : StM := if t = 0 then s else endedM s 0 t

theorem list1 {v : List Int} (h : v.length = 1) : v = [v.getD 0 0] := by
  match v, h with
  | [a], _ => rfl
theorem list2 {v : List Int} (h : v.length = 2) : v = [v.getD 0 0, v.getD 1 0] := by
  match v, h with
  | [a, b], _ => rfl
theorem list3 {v : List Int} (h : v.length = 3) : v = [v.getD 0 0, v.getD 1 0, v.getD 2 0] := by
  match v, h with
  | [a, b, c], _ => rfl

theorem takes_row1 (op : Int) (h : (op = 3 ∨ op = 4 ∨ op = 5) ∨ (24 ≤ op ∧ op ≤ 29) ∨ op = 31 ∨ op = 33 ∨ op = 34 ∨ op = 37 ∨ op = 38) : (opRow op).2.2.1 = 1 := by
  obtain ⟨k, rfl⟩ := Int.eq_ofNat_of_zero_le (show 0 ≤ op by omega)
  have : ∀ k : Fin 39, ((k.1 = 3 ∨ k.1 = 4 ∨ k.1 = 5) ∨ (24 ≤ k.1 ∧ k.1 ≤ 29) ∨ k.1 = 31 ∨ k.1 = 33 ∨ k.1 = 34 ∨ k.1 = 37 ∨ k.1 = 38) → (opN k.1).2.2.1 = 1 := by decide
  unfold opRow
  rw [if_pos (by omega)]
  simpa using this ⟨k, by omega⟩ (by simp only; omega)
theorem takes_row2 (op : Int) (h : (10 ≤ op ∧ op ≤ 23) ∨ op = 35) : (opRow op).2.2.1 = 2 := by
  obtain ⟨k, rfl⟩ := Int.eq_ofNat_of_zero_le (show 0 ≤ op by omega)
  have : ∀ k : Fin 39, ((10 ≤ k.1 ∧ k.1 ≤ 23) ∨ k.1 = 35) → (opN k.1).2.2.1 = 2 := by decide
  unfold opRow
  rw [if_pos (by omega)]
  simpa using this ⟨k, by omega⟩ (by simp only; omega)

theorem doing_is {p : List FnM} {s : StM} {low : List FrM} {f : FrM} {i j : Nat} {hs : List Int} (S : Stand p s low f i j hs) (hsm : ∀ g ∈ s.frames, g.stack.length ≤ 1048575)
    (B m : Nat) (vp : PV) (w : World) (hM : MacI B m vp w (midM s low f)) (hP : ∀ w', Below B w w' → FnRow 0 w' vp.v p ∧ Tab w') (op x : Int) (hop : insAt (fnAt p i).code j = (op, x)) :
    ∃ s' t, Doing (doF op.toNat) B m vp op x s' t w ∧ behindT s' t = stepM p s := by
  obtain ⟨e1, e2, e3⟩ := S.top
  have hins := S.ins
  have hcut := S.cut _ rfl
  rw [hop] at hins hcut
  simp only at hins hcut
  have hro := right_op hins
  have hto := fun h => takes_other p op x h
  have h8 := S.h8
  have hl8 := S.loc8
  have hten := S.ten
  obtain ⟨hh1, hh2⟩ := S.heap
  have hh2' : ∀ a ∈ s.heap, a.length ≤ 1048576 := fun a ha => by have := hh2 a ha; omega
  have hout := S.out
  have hfu := S.fuel
  obtain ⟨d1, d2, d3⟩ := S.told
  have hWE : ∀ g, onTop (midM s low f) low g = withM s g := fun g => by unfold onTop midM withM; rw [e2]
  have hTE : ∀ g t hp, t ≠ 0 → endedM { (onTop (midM s low f) low g) with heap := hp } 0 t = trapM s hp t := fun g t hp _ => by unfold endedM onTop midM trapM; rw [d2]
  have hfr : (midM s low f).frames = low ++ [⟨f.func, f.pc + 1, f.locals, f.stack⟩] := rfl
  unfold stepM
  dsimp only
  rw [e1, e2, e3, hop]
  simp only
  obtain ⟨k, hk⟩ : ∃ k, k = f.stack.length - (takesM p op x).toNat := ⟨_, rfl⟩
  rw [← hk] at hcut ⊢
  obtain ⟨hc1, hc2⟩ := hcut
  have hst : f.stack = f.stack.take k ++ f.stack.drop k := (List.take_append_drop k f.stack).symm
  obtain ⟨st, hst1⟩ : ∃ st, st = f.stack.take k := ⟨_, rfl⟩
  obtain ⟨v, hv1⟩ : ∃ v, v = f.stack.drop k := ⟨_, rfl⟩
  rw [← hst1, ← hv1] at hst
  rw [← hst1] at hc1 ⊢
  rw [← hv1] at hc2 ⊢
  have one : ∀ h : (op = 3 ∨ op = 4 ∨ op = 5) ∨ (24 ≤ op ∧ op ≤ 29) ∨ op = 31 ∨ op = 33 ∨ op = 34 ∨ op = 37 ∨ op = 38, v = [v.getD 0 0] := fun h => list1 (by have a := hto (by omega); have b := takes_row1 op h; omega)
  have two : ∀ h : (10 ≤ op ∧ op ≤ 23) ∨ op = 35, v = [v.getD 0 0, v.getD 1 0] := fun h => list2 (by have a := hto (by omega); have b := takes_row2 op h; omega)
  by_cases h1 : op = 1
  · rw [if_pos h1]
    subst h1
    have hz : v = [] := List.length_eq_zero_iff.1 (by have a := hto (by omega); have b : (opRow 1).2.2.1 = 0 := rfl; omega)
    rw [hz, List.append_nil] at hst
    refine ⟨_, _, doPush B m vp (midM s low f) low ⟨f.func, f.pc + 1, f.locals, f.stack⟩ 1 x w hM hfr (by simp only; omega) (by omega), ?_⟩
    unfold behindT; rw [if_pos rfl, hWE, hst]
  rw [if_neg h1]
  by_cases h2 : op = 2
  · rw [if_pos h2]
    subst h2
    have hz : v = [] := List.length_eq_zero_iff.1 (by have a := hto (by omega); have b : (opRow 2).2.2.1 = 0 := rfl; omega)
    rw [hz, List.append_nil] at hst
    have hx : 0 ≤ x ∧ x < (fnAt p i).locals := by
      unfold rightM at hins
      rw [Bool.and_eq_true, if_neg (by omega), if_pos (by omega)] at hins
      exact of_decide_eq_true hins.2
    obtain ⟨y, rfl⟩ := Int.eq_ofNat_of_zero_le hx.1
    have hloc := S.loc
    refine ⟨_, _, doLoad B m vp (midM s low f) low ⟨f.func, f.pc + 1, f.locals, f.stack⟩ 2 y w hM hfr (by simp only; omega) (by simp only; omega) (by simp only; omega) (by omega), ?_⟩
    unfold behindT; rw [if_pos rfl, hWE, hst, Int.toNat_natCast, List.getD_eq_getElem?_getD, List.getElem?_eq_getElem (by omega)]; rfl
  rw [if_neg h2]
  by_cases h3 : op = 3
  · rw [if_pos h3]
    subst h3
    rw [one (by omega)] at hst
    have hx : 0 ≤ x ∧ x < (fnAt p i).locals := by
      unfold rightM at hins
      rw [Bool.and_eq_true, if_neg (by omega), if_pos (by omega)] at hins
      exact of_decide_eq_true hins.2
    obtain ⟨y, rfl⟩ := Int.eq_ofNat_of_zero_le hx.1
    have hloc := S.loc
    refine ⟨_, _, doStore B m vp (midM s low f) low ⟨f.func, f.pc + 1, f.locals, f.stack⟩ st (v.getD 0 0) 3 y w hM hfr hst (by simp only; omega) (by simp only; omega) (by simp only; omega) (by omega), ?_⟩
    unfold behindT; rw [if_pos rfl, hWE, Int.toNat_natCast]
  rw [if_neg h3]
  by_cases h4 : op = 4
  · rw [if_pos h4]
    subst h4
    rw [one (by omega)] at hst
    refine ⟨_, _, doDup B m vp (midM s low f) low ⟨f.func, f.pc + 1, f.locals, f.stack⟩ st (v.getD 0 0) 4 x w hM hfr hst (by simp only; omega) (by omega), ?_⟩
    unfold behindT; rw [if_pos rfl, hWE]
  rw [if_neg h4]
  by_cases h5 : op = 5
  · rw [if_pos h5]
    subst h5
    rw [one (by omega)] at hst
    refine ⟨_, _, doPop B m vp (midM s low f) low ⟨f.func, f.pc + 1, f.locals, f.stack⟩ st (v.getD 0 0) 5 x w hM hfr hst (by simp only; omega) (by omega), ?_⟩
    unfold behindT; rw [if_pos rfl, hWE]
  rw [if_neg h5]
  by_cases h30 : op = 30
  · rw [if_pos h30]
    subst h30
    have hz : v = [] := List.length_eq_zero_iff.1 (by have a := hto (by omega); have b : (opRow 30).2.2.1 = 0 := rfl; omega)
    rw [hz, List.append_nil] at hst
    refine ⟨_, _, doJump B m vp (midM s low f) low ⟨f.func, f.pc + 1, f.locals, f.stack⟩ 30 x w hM hfr (by omega), ?_⟩
    unfold behindT; rw [if_pos rfl, hWE, hst]
  rw [if_neg h30]
  by_cases h31 : op = 31
  · rw [if_pos h31]
    subst h31
    rw [one (by omega)] at hst
    refine ⟨_, _, doJz B m vp (midM s low f) low ⟨f.func, f.pc + 1, f.locals, f.stack⟩ st (v.getD 0 0) 31 x w hM hfr hst (by simp only; omega) (by omega), ?_⟩
    unfold behindT; rw [if_pos rfl, hWE]
  rw [if_neg h31]
  by_cases h32 : op = 32
  · rw [if_pos h32]
    subst h32
    have hx : 0 ≤ x ∧ x < p.length := by
      unfold rightM at hins
      rw [Bool.and_eq_true, if_neg (by omega), if_neg (by omega), if_neg (by omega), if_pos rfl] at hins
      exact inL_iff.1 hins.2
    obtain ⟨y, rfl⟩ := Int.eq_ofNat_of_zero_le hx.1
    have hy : y < p.length := by omega
    have hlen : s.frames.length = low.length + 1 := by rw [S.frames]; simp
    have hmid : (midM s low f).frames.length = low.length + 1 := by rw [hfr]; simp
    by_cases h10 : s.frames.length < 10
    · rw [if_pos h10]
      obtain ⟨w1, _, _⟩ := ((S.right.all.2.2 y hy).well rfl)
      simp [formOk] at w1
      have htk : takesM p 32 (y : Int) = (fnAt p y).args := by unfold takesM; rw [if_pos rfl, if_pos hx]
      have hfa : fnAt p y = p[y] := by unfold fnAt; simp [hy]
      rw [hfa] at htk w1
      obtain ⟨lo, hlo⟩ := Int.eq_ofNat_of_zero_le (show 0 ≤ p[y].locals by omega)
      refine ⟨_, _, doCall B m vp p (midM s low f) low ⟨f.func, f.pc + 1, f.locals, f.stack⟩ st v y lo w hM hfr hst (by simp only; omega) (by omega) hP hy hc2.symm hlo (by omega) (by omega), ?_⟩
      unfold behindT; rw [if_pos rfl, hWE, hfa, hlo]; rfl
    · rw [if_neg h10]
      refine ⟨_, _, doDeep B m vp (midM s low f) 32 y w hM (by omega) (by omega), ?_⟩
      unfold behindT; rw [if_neg (by omega)]
      unfold endedM midM trapM; rw [d2]
  rw [if_neg h32]
  by_cases h33 : op = 33
  · rw [if_pos h33]
    subst h33
    rw [one (by omega)] at hst
    by_cases hl : low = []
    · rw [if_pos hl]
      subst hl
      refine ⟨_, _, doRetEnd B m vp (midM s [] f) ⟨f.func, f.pc + 1, f.locals, f.stack⟩ st (v.getD 0 0) 33 x w hM rfl hst (by simp only; omega), ?_⟩
      unfold behindT; rw [if_pos rfl]
      unfold endedM midM; rw [d3]
    · rw [if_neg hl]
      obtain ⟨low', g, rfl⟩ : ∃ low' g, low = low' ++ [g] := ⟨low.dropLast, low.getLast hl, (List.dropLast_concat_getLast hl).symm⟩
      simp only [List.length_append, List.length_singleton] at hten
      have eg : (low' ++ [g]).getLastD ⟨0, 0, [], []⟩ = g := by simp
      have ed : (low' ++ [g]).dropLast = low' := by simp
      rw [eg, ed]
      refine ⟨_, _, doRet B m vp (midM s (low' ++ [g]) f) low' g ⟨f.func, f.pc + 1, f.locals, f.stack⟩ st (v.getD 0 0) 33 x w hM (by rw [hfr]; simp) hst (by simp only; omega) (hsm g (by rw [S.frames]; simp)) (by omega), ?_⟩
      unfold behindT; rw [if_pos rfl]; rfl
  rw [if_neg h33]
  by_cases h38 : op = 38
  · rw [if_pos h38]
    subst h38
    rw [one (by omega)] at hst
    refine ⟨_, _, doOut B m vp (midM s low f) low ⟨f.func, f.pc + 1, f.locals, f.stack⟩ st (v.getD 0 0) 38 x w hM hfr hst (by simp only; omega) (by omega) (by show s.out.length ≤ _; omega), ?_⟩
    unfold behindT; rw [if_pos rfl, hWE]; rfl
  rw [if_neg h38]
  have hB0 : ∀ (g : FrM) (hp : List (List Int)), { (withM s g) with heap := hp } = { (onTop (midM s low f) low g) with heap := hp } := fun g hp => by rw [hWE]
  by_cases hb : 10 ≤ op ∧ op ≤ 23
  · have hv := two (.inl hb)
    rw [hv] at hst
    have hF : doF op.toNat = 136 := by unfold doF; rw [if_neg (by omega), if_neg (by omega), if_neg (by omega), if_neg (by omega), if_neg (by omega), if_pos (by omega)]
    have hD : doM op v s.heap = ((binN op (v.getD 0 0) (v.getD 1 0), binT op (v.getD 1 0)), s.heap) := by unfold doM; dsimp only; rw [if_pos hb]
    rw [hD, hF]
    refine ⟨_, _, doBinary B m vp (midM s low f) low ⟨f.func, f.pc + 1, f.locals, f.stack⟩ st (v.getD 0 0) (v.getD 1 0) op x w hM hfr hst (by simp only; omega) (by omega), ?_⟩
    simp only
    unfold behindT
    by_cases ht : binT op (v.getD 1 0) = 0
    · rw [if_pos ht, if_pos ht, if_neg (by omega), hWE, if_neg (by omega)]; rfl
    · rw [if_neg ht, if_neg ht, if_pos ht]; exact hTE _ _ s.heap ht
  by_cases hu : 24 ≤ op ∧ op ≤ 29
  · have hv := one (.inr (.inl hu))
    rw [hv] at hst
    have hF : doF op.toNat = 137 := by unfold doF; rw [if_neg (by omega), if_neg (by omega), if_neg (by omega), if_neg (by omega), if_neg (by omega), if_neg (by omega), if_pos (by omega)]
    have hD : doM op v s.heap = ((unN op (v.getD 0 0), 0), s.heap) := by unfold doM; dsimp only; rw [if_neg hb, if_pos hu]
    rw [hD, hF]
    refine ⟨_, _, doUnary B m vp (midM s low f) low ⟨f.func, f.pc + 1, f.locals, f.stack⟩ st (v.getD 0 0) op x w hM hfr hst (by simp only; omega) (by omega), ?_⟩
    simp only
    unfold behindT
    rw [if_pos rfl, if_neg (by omega), hWE, if_neg (by omega)]; rfl
  by_cases h34 : op = 34
  · subst h34
    have hv := one (by omega)
    rw [hv] at hst ⊢
    refine ⟨_, _, doNew B m vp (midM s low f) low ⟨f.func, f.pc + 1, f.locals, f.stack⟩ st (v.getD 0 0) 34 x w hM hfr hst (by simp only; omega) (by omega) (by show s.heap.length ≤ _; omega), ?_⟩
    show behindT (if (doM 34 [v.getD 0 0] s.heap).1.2 = 0 then _ else _) (doM 34 [v.getD 0 0] s.heap).1.2 = _
    unfold behindT
    by_cases ht : (doM 34 [v.getD 0 0] s.heap).1.2 = 0
    · rw [if_pos ht, if_pos ht, if_neg (by omega), if_neg (by omega), hB0]; rfl
    · rw [if_neg ht, if_neg ht, if_pos ht]; exact hTE _ _ _ ht
  by_cases h35 : op = 35
  · subst h35
    have hv := two (by omega)
    rw [hv] at hst ⊢
    have hsame : (doM 35 [v.getD 0 0, v.getD 1 0] s.heap).2 = s.heap := by unfold doM; simp only [apply_ite Prod.snd]; simp
    rw [hsame]
    refine ⟨_, _, doGet B m vp (midM s low f) low ⟨f.func, f.pc + 1, f.locals, f.stack⟩ st (v.getD 0 0) (v.getD 1 0) 35 x w hM hfr hst (by simp only; omega) (by omega) (by show s.heap.length ≤ _; omega) hh2', ?_⟩
    show behindT (if (doM 35 [v.getD 0 0, v.getD 1 0] s.heap).1.2 = 0 then _ else _) (doM 35 [v.getD 0 0, v.getD 1 0] s.heap).1.2 = _
    unfold behindT
    by_cases ht : (doM 35 [v.getD 0 0, v.getD 1 0] s.heap).1.2 = 0
    · rw [if_pos ht, if_pos ht, if_neg (by omega), if_neg (by omega), hB0]; rfl
    · rw [if_neg ht, if_neg ht, if_pos ht]; exact hTE _ _ _ ht
  by_cases h36 : op = 36
  · subst h36
    have hv : v = [v.getD 0 0, v.getD 1 0, v.getD 2 0] := list3 (by have a := hto (by omega); have b : (opRow 36).2.2.1 = 3 := rfl; omega)
    rw [hv] at hst ⊢
    refine ⟨_, _, doSet B m vp (midM s low f) low ⟨f.func, f.pc + 1, f.locals, f.stack⟩ st (v.getD 0 0) (v.getD 1 0) (v.getD 2 0) 36 x w hM hfr hst (by simp only; omega) (by omega) (by show s.heap.length ≤ _; omega) hh2', ?_⟩
    show behindT _ (doM 36 [v.getD 0 0, v.getD 1 0, v.getD 2 0] s.heap).1.2 = _
    unfold behindT
    by_cases ht : (doM 36 [v.getD 0 0, v.getD 1 0, v.getD 2 0] s.heap).1.2 = 0
    · rw [if_pos ht, if_neg (by omega), if_pos rfl, hB0]; rfl
    · rw [if_neg ht, if_pos ht]; exact hTE _ _ _ ht
  have h37 : op = 37 := by omega
  subst h37
  have hv := one (by omega)
  rw [hv] at hst ⊢
  have hsame : (doM 37 [v.getD 0 0] s.heap).2 = s.heap := by unfold doM; simp only [apply_ite Prod.snd]; simp
  rw [hsame]
  refine ⟨_, _, doLen B m vp (midM s low f) low ⟨f.func, f.pc + 1, f.locals, f.stack⟩ st (v.getD 0 0) 37 x w hM hfr hst (by simp only; omega) (by omega) (by show s.heap.length ≤ _; omega) hh2', ?_⟩
  show behindT (if (doM 37 [v.getD 0 0] s.heap).1.2 = 0 then _ else _) (doM 37 [v.getD 0 0] s.heap).1.2 = _
  unfold behindT
  by_cases ht : (doM 37 [v.getD 0 0] s.heap).1.2 = 0
  · rw [if_pos ht, if_pos ht, if_neg (by omega), if_neg (by omega), hB0]; rfl
  · rw [if_neg ht, if_neg ht, if_pos ht]; exact hTE _ _ _ ht
end Go.Proofs.YtnknnncehcofnaaGreatDoor
