/- impl.Takes, spec.Takes. -/
import Derived.Test.YtijgonjnmibifaaGreatDoorPutsW
namespace Go.Proofs.YtijgonjnmibifaaGreatDoor
open Go.RowKit

/-- the function of that number, or one of noughts -/
def fnAt (p : List FnM) (a : Int) : FnM := p.getD a.toNat ⟨0, 0, []⟩

def takesM (p : List FnM) (op a : Int) : Int := if op = 32 then (if 0 ≤ a ∧ a < p.length then (fnAt p a).args else 0) else (opRow op).2.2.1

theorem arg_call (op : Int) (h : op ≠ 32) : ((opRow op).2.1 == 4) = false := by
  refine opRow_of op (P := fun r => (r.2.1 == 4) = false) (fun _ => rfl) (fun k hk he => ?_)
  subst he
  have : ∀ k : Fin 39, k.1 ≠ 32 → ((opN k.1).2.1 == 4) = false := by decide
  exact this ⟨k, hk⟩ (by show k ≠ 32; omega)

set_option maxHeartbeats 800000 in
theorem implTakes {B : Nat} (v : Value) (p : List FnM) (op a : Int) (w : World) (ht : Tab w) (hr : FnRow B w v p) :
    Calls Tryz.prog 127 #[.agg #[v], .agg #[.int .i64 op, .int .i64 a]] w fun e w' => e = .returned (.int .i64 (takesM p op a)) ∧ Below w.heap.size w w' := by
  have Hr : Hid (FnRow B w v p) := hr
  have hlen := hr.len
  obtain ⟨A, cap, rfl⟩ := hr.form
  have Ht : Hid (∀ o o', Tab ((w.alloc o).alloc o')) := fun o o' => ht.below (((Below.refl _ _).alloc (Nat.le_refl _) _).alloc (by simp) _)
  clear hr ht
  go_enter Tryz.func127, Tryz.ntmps127
  go_wp2_with fail
  refine (rowOf op _ (Ht.out _ _)).mono ?_
  rintro e w1 ⟨rfl, hb⟩
  obtain ⟨x0, x1, x2⟩ := boxes_new w #[.slice A p.length cap] #[.int .i64 op, .int .i64 a] 34 146
  have Hb : Hid (Below w.heap.size w w1) := x2.trans (hb.mono (by simp; omega))
  have hB0 := x0.below hb
  have hB1 := x1.below hb
  have hz0 := hB0.1
  have hz1 := hB1.1
  have c0 := hB0.at0
  have d0 := hB1.at0
  have d1 := hB1.at1
  have Hr1 : Hid (FnRow B w1 (.slice A p.length cap) p) := Hr.out.below Hb.out
  clear hb x0 x1 x2 hB0 hB1 Ht Hr
  by_cases h32 : op = 32
  · subst h32
    rw [show opRow 32 = ([99, 97, 108, 108], 4, 0, 1) from rfl]
    go_wp2_with fail
    refine (inList a p.length _ hlen).mono ?_
    rintro e w2 ⟨rfl, h⟩
    subst w2
    by_cases hin : 0 ≤ a ∧ a < p.length
    · have hL : inL a p.length = true := by simpa [inL] using hin
      rw [hL]
      obtain ⟨k, rfl⟩ := Int.eq_ofNat_of_zero_le hin.1
      have hk : k < p.length := by omega
      have HT : Hid (takesM p 32 k = p[k].args) := show takesM p 32 k = p[k].args from by simp [takesM, hk, fnAt, List.getD]
      obtain ⟨b, off, x, rfl, hlt, e0, _, _, _⟩ := Hr1.out.at k hk
      go_wp2_with fail
      go_ret
      exact ⟨by rw [Hid.out HT]; rfl, Hb.out.alloc (by omega) _⟩
    · have hL : inL a p.length = false := by simp only [inL, decide_eq_false_iff_not]; exact hin
      have HT : Hid (takesM p 32 a = 0) := show takesM p 32 a = 0 from by simp only [takesM, if_true, if_neg hin]
      rw [hL]
      go_wp2_with fail
      go_ret
      exact ⟨by rw [Hid.out HT]; rfl, Hb.out.alloc (by omega) _⟩
  · have harg := arg_call op h32
    have HT : Hid (takesM p op a = (opRow op).2.2.1) := show takesM p op a = (opRow op).2.2.1 from by simp only [takesM, if_neg h32]
    go_wp2_with fail
    go_ret
    exact ⟨by rw [Hid.out HT]; rfl, Hb.out.alloc (by omega) _⟩

theorem takes_two (op : Int) (h : isBin op = true ∨ op = 35) : (opRow op).2.2.1 = 2 := by
  have h1 : 10 ≤ op ∧ op ≤ 23 ∨ op = 35 := by simp [isBin] at h; omega
  obtain ⟨k, rfl⟩ := Int.eq_ofNat_of_zero_le (show 0 ≤ op by omega)
  have : ∀ k : Fin 39, (10 ≤ k.1 ∧ k.1 ≤ 23 ∨ k.1 = 35) → (opRow (k.1 : Int)).2.2.1 = 2 := by decide
  exact this ⟨k, by omega⟩ (by show 10 ≤ k ∧ k ≤ 23 ∨ k = 35; omega)

theorem takes_un (op : Int) (h : isUn op = true) : (opRow op).2.2.1 = 1 := by
  have h1 : 24 ≤ op ∧ op ≤ 29 := by simpa [isUn] using h
  obtain ⟨k, rfl⟩ := Int.eq_ofNat_of_zero_le (show 0 ≤ op by omega)
  have : ∀ k : Fin 39, 24 ≤ k.1 ∧ k.1 ≤ 29 → (opRow (k.1 : Int)).2.2.1 = 1 := by decide
  exact this ⟨k, by omega⟩ (by show 24 ≤ k ∧ k ≤ 29; omega)

theorem takes_none (op : Int) (h : isBin op = false) (h' : isUn op = false) (h2 : op ≠ 35) (h3 : op ≠ 36) (h1 : ¬ (op = 3 ∨ op = 4 ∨ op = 5 ∨ op = 31 ∨ op = 33 ∨ op = 34 ∨ op = 37 ∨ op = 38)) : (opRow op).2.2.1 = 0 := by
  simp only [isBin, isUn, decide_eq_false_iff_not] at h h'
  refine opRow_of op (P := fun r => r.2.2.1 = 0) (fun _ => rfl) (fun k hk he => ?_)
  subst he
  have : ∀ k : Fin 39, ¬ (10 ≤ k.1 ∧ k.1 ≤ 29) → k.1 ≠ 35 → k.1 ≠ 36 → ¬ (k.1 = 3 ∨ k.1 = 4 ∨ k.1 = 5 ∨ k.1 = 31 ∨ k.1 = 33 ∨ k.1 = 34 ∨ k.1 = 37 ∨ k.1 = 38) → (opN k.1).2.2.1 = 0 := by decide
  exact this ⟨k, hk⟩ (by show ¬ (10 ≤ k ∧ k ≤ 29); omega) (by show k ≠ 35; omega) (by show k ≠ 36; omega) (by show ¬ (k = 3 ∨ k = 4 ∨ k = 5 ∨ k = 31 ∨ k = 33 ∨ k = 34 ∨ k = 37 ∨ k = 38); omega)

set_option maxHeartbeats 1600000 in
theorem specTakes {B : Nat} (v : Value) (p : List FnM) (op a : Int) (w : World) (hr : FnRow B w v p) :
    Calls Tryz.prog 83 #[.agg #[v], .agg #[.int .i64 op, .int .i64 a]] w fun e w' => e = .returned (.int .i64 (takesM p op a)) ∧ Below w.heap.size w w' := by
  have Hr : Hid (FnRow B w v p) := hr
  have hlen := hr.len
  obtain ⟨A, cap, rfl⟩ := hr.form
  clear hr
  have Hb : Hid (∀ o o' : Obj, Below w.heap.size w ((w.alloc o).alloc o')) := fun o o' => ((Below.refl _ _).alloc (Nat.le_refl _) _).alloc (by simp) _
  go_enter Tryz.func83, Tryz.ntmps83
  go_wp2_with fail
  refine (specBin op _).mono ?_
  rintro e w1 ⟨rfl, h⟩
  subst w1
  by_cases hB : isBin op = true ∨ op = 35
  · have HT : Hid (takesM p op a = 2) := show takesM p op a = 2 by
      rw [← takes_two op hB]
      have : op ≠ 32 := by rintro rfl; revert hB; decide
      simp only [takesM, if_neg this]
    rcases hB with hB | rfl
    · rw [hB]
      go_wp2_with fail
      go_ret
      exact ⟨by rw [HT.out]; rfl, Hb.out _ _⟩
    · rw [show isBin 35 = false from rfl]
      go_wp2_with fail
      go_ret
      exact ⟨by rw [HT.out]; rfl, Hb.out _ _⟩
  · obtain ⟨hB1, n35⟩ := not_or.1 hB
    have hB' : isBin op = false := by simpa using hB1
    have e35 : (op == 35) = false := by simpa using n35
    rw [hB']
    by_cases h36 : op = 36
    · subst h36
      clear e35 hB n35 hB1
      go_wp2_with fail
      go_ret
      exact ⟨rfl, Hb.out _ _⟩
    · have e36 : (op == 36) = false := by simpa using h36
      by_cases h32 : op = 32
      · subst h32
        clear e35 e36 hB n35 hB1 h36
        by_cases hin : 0 ≤ a ∧ a < p.length
        · obtain ⟨k, rfl⟩ := Int.eq_ofNat_of_zero_le hin.1
          have hk : k < p.length := by omega
          have HT : Hid (takesM p 32 k = p[k].args) := show takesM p 32 k = p[k].args by simp [takesM, hk, fnAt, List.getD]
          obtain ⟨b, off, x, rfl, hlt, e0, _, _, _⟩ := Hr.out.at k hk
          go_wp2_with fail
          go_ret
          exact ⟨by rw [HT.out]; rfl, Hb.out _ _⟩
        · have HT : Hid (takesM p 32 a = 0) := show takesM p 32 a = 0 by simp only [takesM, if_true, if_neg hin]
          by_cases h0 : a < 0
          · go_wp2_with fail
            go_ret
            exact ⟨by rw [HT.out]; rfl, Hb.out _ _⟩
          · have h0' : decide (a < 0) = false := by simpa using h0
            have h1 : (p.length : Int) ≤ a := by omega
            clear hin
            go_wp2_with fail
            go_ret
            exact ⟨by rw [HT.out]; rfl, Hb.out _ _⟩
      · have e32 : (op == 32) = false := by simpa using h32
        have hT : takesM p op a = (opRow op).2.2.1 := by simp only [takesM, if_neg h32]
        have HT : Hid (takesM p op a = (opRow op).2.2.1) := hT
        clear hT
        go_wp2_with fail
        refine (specUn op _).mono ?_
        rintro e w1 ⟨rfl, h⟩
        subst w1
        by_cases hU : isUn op = true
        · have Hp : Hid ((opRow op).2.2.1 = 1) := takes_un op hU
          rw [hU]
          go_wp2_with fail
          go_ret
          exact ⟨by rw [HT.out, Hp.out]; rfl, Hb.out _ _⟩
        · have hU' : isUn op = false := by simpa using hU
          rw [hU']
          by_cases h1 : op = 3 ∨ op = 4 ∨ op = 5 ∨ op = 31 ∨ op = 33 ∨ op = 34 ∨ op = 37 ∨ op = 38
          · clear hB hU hB' hU' e35 e36 e32 h36 h32 n35 hB1
            rcases h1 with rfl | rfl | rfl | rfl | rfl | rfl | rfl | rfl
            all_goals
              go_wp2_with fail
              go_ret
              exact ⟨by rw [HT.out]; rfl, Hb.out _ _⟩
          · have Hp : Hid ((opRow op).2.2.1 = 0) := takes_none op hB' hU' n35 h36 h1
            simp only [not_or] at h1
            obtain ⟨n1, n2, n3, n4, n5, n6, n7, n8⟩ := h1
            have e1 : (op == 3) = false := by simpa using n1
            have e2 : (op == 4) = false := by simpa using n2
            have e3 : (op == 5) = false := by simpa using n3
            have e4 : (op == 31) = false := by simpa using n4
            have e5 : (op == 33) = false := by simpa using n5
            have e6 : (op == 34) = false := by simpa using n6
            have e7 : (op == 37) = false := by simpa using n7
            have e8 : (op == 38) = false := by simpa using n8
            go_wp2_with fail
            go_ret
            exact ⟨by rw [HT.out, Hp.out]; rfl, Hb.out _ _⟩
end Go.Proofs.YtijgonjnmibifaaGreatDoor
