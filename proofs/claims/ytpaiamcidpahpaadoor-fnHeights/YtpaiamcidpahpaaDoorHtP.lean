/- laws.FnHeights: what is drawn, and the plain account of heights and headers. -/
import Derived.Test.YtpaiamcidpahpaaDoorGenOne
import Derived.Test.YtpaiamcidpahpaaDoorImplHdr
import Derived.Test.YtpaiamcidpahpaaDoorURow
import Derived.Test.YtpaiamcidpahpaaDoorArgsB
namespace Go.Proofs.YtpaiamcidpahpaaDoor
open Go.RowKit

theorem drawHeights (v : Value) (zs : List Int) (w : World) (hr : Row8 w.heap.size w v zs) (hz : zs.length ≤ 1048576) :
    Calls Tryd.prog 8 #[v] w fun e w' => ∃ u p f, e = .returned (.tuple #[.agg #[u], .int .i64 f]) ∧ Drawn w.heap.size w' u p ∧ (-1 ≤ f ∧ f ≤ 9) ∧ Below w.heap.size w w' := by
  have Hb0 : Hid (Below w.heap.size w (w.alloc (.cells #[.slice none 0 0] 25))) := (Below.refl _ _).alloc (Nat.le_refl _) _
  have HR0 : Hid (VRow (w.alloc (.cells #[.slice none 0 0] 25)) w.heap.size [.slice none 0 0]) := vrow_new w #[.slice none 0 0] 25
  have Hr : Hid (Row8 (w.alloc (.cells #[.slice none 0 0] 25)).heap.size (w.alloc (.cells #[.slice none 0 0] 25)) v zs) := (hr.below Hb0.out).up (by simp)
  obtain ⟨ad, cap, rfl⟩ := hr.len
  clear hr
  go_enter Tryd.func8, Tryd.ntmps8
  go_wp2_with fail
  refine (drawOne _ zs _ Hr.out hz).mono ?_
  rintro e w1 ⟨u, p, f, rfl, hD, hf, hb1⟩
  have hR1 := HR0.out.below hb1
  obtain ⟨c0, c1⟩ := hR1.2 0 (by simp)
  have c2 := hR1.1
  simp only [List.getElem_cons_zero] at c0
  have HB1 : Hid (Below w.heap.size w w1) := Hb0.out.trans (hb1.mono (by simp))
  obtain ⟨Au, capu, rfl⟩ := hD.1.form
  have x0 : (w1.setCell ⟨w.heap.size, 0, none⟩ (.slice Au p.length capu)).cell? ⟨w.heap.size, 0, none⟩ = some (.slice Au p.length capu) := World.cell?_setCell_same _ _ _ c0
  have HX : Hid (Drawn w.heap.size (w1.setCell ⟨w.heap.size, 0, none⟩ (.slice Au p.length capu)) (.slice Au p.length capu) p) := ⟨(hD.1.set (by simp) _).lower (by simp), hD.2⟩
  clear hD hb1 hR1 Hb0 HR0 Hr
  go_wp2_with fail
  exact bodyPost_ret (v := .tuple #[.agg #[.slice Au p.length capu], .int .i64 f]) (by simp [results, Tryd.results8, go_sem, x0]) rfl ⟨_, p, f, rfl, HX.out, hf, HB1.out.setCell (Nat.le_refl _) _⟩

theorem eqVer (a b c d e f : Int) (w : World) : (Op.equalIn 10000 29 (.agg #[.int .i64 a, .int .i64 b, .int .i64 c]) (.agg #[.int .i64 d, .int .i64 e, .int .i64 f])).run Tryd.prog w = .ok (a == d && b == e && c == f) w := by
  have u3 := Tryd.underlying2
  have a3 := Tryd.isAgg2
  have z3 := Tryd.sizeOf2
  have hS : Tryd.prog.underlying 29 = some (.struct (Tryd.prog.fieldsOf 29)) := by kernel_rfl
  have hp : Tryd.prog.stoodInHeld 29 = false := by kernel_rfl
  rw [show (10000 : Nat) = 9999 + 1 from rfl, run_equalIn_agg w 9999 29 _ _ hS hp]
  simp only [Program.fieldsOf, Tryd.underlying29]
  go_simp
  by_cases h1 : a = d <;> by_cases h2 : b = e <;> by_cases h3 : c = f <;> simp [h1, h2, h3]

/-- heights and headers of a function of a right program, as the law holds them against each other -/
structure HtAll (p : List FnM) (c : List (Int × Int)) (hs : List Int) : Prop where
  len : hs.length = c.length
  pos : 1 ≤ hs.length
  few : hs.length ≤ 60
  first : hs.getD 0 0 = 0
  rng : ∀ j, j < hs.length → hs.getD j 0 = -1 ∨ (0 ≤ hs.getD j 0 ∧ hs.getD j 0 ≤ 8)
  takes : ∀ j, j < hs.length → 0 ≤ hs.getD j 0 → 0 ≤ takesM p (insAt c j).1 (insAt c j).2 ∧ takesM p (insAt c j).1 (insAt c j).2 ≤ hs.getD j 0
  next : ∀ j, j < hs.length → 0 ≤ hs.getD j 0 → hs.getD j 0 - takesM p (insAt c j).1 (insAt c j).2 + putsM (insAt c j).1 ≤ 8
  plain : ∀ j, j < hs.length → 0 ≤ hs.getD j 0 → (insAt c j).1 ≠ 30 → (insAt c j).1 ≠ 33 → j + 1 < hs.length ∧ hs.getD (j + 1) 0 = hs.getD j 0 - takesM p (insAt c j).1 (insAt c j).2 + putsM (insAt c j).1
  jump : ∀ j, j < hs.length → 0 ≤ hs.getD j 0 → (insAt c j).1 = 30 ∨ (insAt c j).1 = 31 → 0 ≤ (insAt c j).2 ∧ (insAt c j).2 < hs.length ∧ hs.getD (insAt c j).2.toNat 0 = hs.getD j 0 - takesM p (insAt c j).1 (insAt c j).2 + putsM (insAt c j).1
  heads : ∀ t ∈ heads c hs, t < hs.length ∧ 0 ≤ hs.getD t 0

theorem RightP.all' {p : List FnM} (h : RightP p) (k : Nat) (hk : k < p.length) : ∃ hs, HRun p (fnAt p k).code (startH (fnAt p k).code.length) (.inl hs) ∧ HtAll p (fnAt p k).code hs := by
  obtain ⟨hs, hrun, hl, h1, h0, hr, hg⟩ := h.heights k hk
  obtain ⟨hfo, hall, _⟩ := ((h.all).2.2 k hk).well rfl
  have hform : 1 ≤ (fnAt p k).code.length ∧ (fnAt p k).code.length ≤ 60 := by simp [formOk] at hfo; omega
  have hnat := goesTo_nat hall
  have hp := h.args
  have key : ∀ j, j < hs.length → 0 ≤ hs.getD j 0 → 0 ≤ hs.getD j 0 ∧ hs.getD j 0 ≤ 8 := fun j hj h0 => by rcases hr j hj with h | h <;> omega
  have hpl : ∀ j, j < hs.length → 0 ≤ hs.getD j 0 → leaves p (hs.getD j 0) (insAt (fnAt p k).code j) = hs.getD j 0 - takesM p (insAt (fnAt p k).code j).1 (insAt (fnAt p k).code j).2 + putsM (insAt (fnAt p k).code j).1 := fun j hj h0 =>
    (leaves_plain hp (key j hj h0).1 (key j hj h0).2 (hg j hj h0).1).1
  refine ⟨hs, hrun, ⟨hl, h1, by omega, h0, hr, fun j hj h0 => ⟨(takesM_range hp _ _).1, (hg j hj h0).1⟩, fun j hj h0 => by rw [← hpl j hj h0]; exact (hg j hj h0).2.1, fun j hj h0 n30 n33 => ?_, fun j hj h0 ho => ?_, fun t ht => heads_reached hp hr hg t ht⟩⟩
  · have hm : ((j : Int) + 1) ∈ goesTo j (insAt (fnAt p k).code j) := by
      unfold goesTo
      rw [List.mem_append]
      left
      rw [if_neg (fun h => by rcases h with h | h; exact n30 h; exact n33 h)]
      simp
    have q := (hg j hj h0).2.2 _ hm
    rw [hpl j hj h0] at q
    exact ⟨by omega, by rw [show ((j : Int) + 1).toNat = j + 1 by omega] at q; exact q.2⟩
  · have hm : (insAt (fnAt p k).code j).2 ∈ goesTo j (insAt (fnAt p k).code j) := by
      unfold goesTo
      rw [List.mem_append]
      right
      rw [if_pos ho]
      simp
    have q := (hg j hj h0).2.2 _ hm
    rw [hpl j hj h0] at q
    exact ⟨hnat j (by omega) _ hm, by omega, q.2⟩
end Go.Proofs.YtpaiamcidpahpaaDoor
