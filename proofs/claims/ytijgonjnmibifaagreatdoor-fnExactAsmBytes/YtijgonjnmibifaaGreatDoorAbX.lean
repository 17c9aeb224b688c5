/- Code of registers as bytes, as plain lists. Code of registers as bytes: what right code's sizes are; what is told. impl.appendVals, appendMoves. impl.AsmBytes. spec.l10PutVals. spec.AsmBytes. -/
import Derived.Test.YtijgonjnmibifaaGreatDoorFilA
import Derived.Test.YtijgonjnmibifaaGreatDoorArgsA
import Derived.Test.YtijgonjnmibifaaGreatDoorAsmRI
import Derived.Lib.SmallJoins
import Derived.Laws.Concat
import Derived.Test.YtijgonjnmibifaaGreatDoorAsmRS
namespace Go.Proofs.YtijgonjnmibifaaGreatDoor
open Go.RowKit

def movB (c : List MvM) : List UInt8 := c.flatMap fun m => nums [m.to, m.kind, m.n]
def movsB (c : List MvM) : List UInt8 := nums [(c.length : Int)] ++ movB c
def valsB (c : List (Int × Int)) : List UInt8 := nums [(c.length : Int)] ++ insB c
/-- the bytes of a place: its instruction and its map -/
def placeB (i : AiM) (m : List (Int × Int)) : List UInt8 := ((movsB i.pre ++ nums [i.op, i.to, i.t]) ++ valsB i.l) ++ valsB m
/-- the first k places -/
def placesB (a : AsM) (k : Nat) : List UInt8 := (List.range k).flatMap fun j => placeB (a.code.getD j default) (a.maps.getD j [])
def asmBy (a : AsM) : List UInt8 := nums [a.func, (a.code.length : Int)] ++ placesB a a.code.length

theorem movB_take (c : List MvM) (k : Nat) (h : k < c.length) : movB (c.take (k + 1)) = movB (c.take k) ++ nums [c[k].to, c[k].kind, c[k].n] := by
  unfold movB
  rw [List.take_succ_eq_append_getElem h, List.flatMap_append, List.flatMap_cons, List.flatMap_nil, List.append_nil]

theorem movB_len (c : List MvM) (h : ∀ m ∈ c, m.ok) : (movB c).length ≤ 30 * c.length := by
  induction c with
  | nil => simp [movB]
  | cons x c ih =>
    have h0 := h x (by simp)
    have h1 := nums_len [x.to, x.kind, x.n] (fun z hz => by simp at hz; rcases hz with rfl | rfl | rfl; exact h0.1; exact h0.2.1; exact h0.2.2)
    have h2 := ih (fun y hy => h y (by simp [hy]))
    simp only [movB, List.flatMap_cons, List.length_append, List.length_cons, List.length_nil] at h1 h2 ⊢
    omega

theorem i64_len {n : Nat} (h : n ≤ 1048576) : I64 (n : Int) := by unfold I64; omega

theorem valsB_len (c : List (Int × Int)) (h : I64v c) (hl : c.length ≤ 1048576) : (valsB c).length ≤ 10 + 20 * c.length := by
  have h1 := nums_len [(c.length : Int)] (fun z hz => by simp at hz; subst hz; exact i64_len hl)
  have h2 := insB_len c h
  simp only [valsB, List.length_append, List.length_cons, List.length_nil] at h1 ⊢
  omega
theorem movsB_len (c : List MvM) (h : ∀ m ∈ c, m.ok) (hl : c.length ≤ 1048576) : (movsB c).length ≤ 10 + 30 * c.length := by
  have h1 := nums_len [(c.length : Int)] (fun z hz => by simp at hz; subst hz; exact i64_len hl)
  have h2 := movB_len c h
  simp only [movsB, List.length_append, List.length_cons, List.length_nil] at h1 ⊢
  omega

/-- small: what a right instruction and its map are -/
def Small (i : AiM) (m : List (Int × Int)) : Prop := i.pre.length ≤ 16 ∧ i.l.length ≤ 16 ∧ m.length ≤ 16

theorem placeB_len {i : AiM} {m : List (Int × Int)} (hi : i.ok) (hm : I64v m) (hs : Small i m) : (placeB i m).length ≤ 1180 := by
  have h1 := movsB_len i.pre hi.1 (by have := hs.1; omega)
  have h2 := nums_len [i.op, i.to, i.t] (fun z hz => by simp at hz; rcases hz with rfl | rfl | rfl; exact hi.2.1; exact hi.2.2.1; exact hi.2.2.2.2)
  have h3 := valsB_len i.l hi.2.2.2.1 (by have := hs.2.1; omega)
  have h4 := valsB_len m hm (by have := hs.2.2; omega)
  obtain ⟨s1, s2, s3⟩ := hs
  simp only [placeB, List.length_append, List.length_cons, List.length_nil] at h2 ⊢
  omega

theorem placesB_succ (a : AsM) (k : Nat) : placesB a (k + 1) = placesB a k ++ placeB (a.code.getD k default) (a.maps.getD k []) := by
  simp [placesB, List.range_succ]

theorem placesB_len (a : AsM) (n : Nat) (h : ∀ j, j < n → (placeB (a.code.getD j default) (a.maps.getD j [])).length ≤ 1180) : (placesB a n).length ≤ 1180 * n := by
  induction n with
  | zero => simp [placesB]
  | succ n ih =>
    have h1 := ih (fun j hj => h j (by omega))
    have h2 := h n (by omega)
    rw [placesB_succ, List.length_append]; omega

theorem Own8.none (B : Nat) (w : World) : Own8 B w (.slice none 0 0) [] := ⟨by simp [Lib.byteCells], .inl ⟨rfl, by simp⟩⟩
end Go.Proofs.YtijgonjnmibifaaGreatDoor

namespace Go.Proofs.YtijgonjnmibifaaGreatDoor
open Go.RowKit

/-- the bytes that are told of code -/
def AbTold (p : List FnM) (a : AsM) (w w' : World) (e : Ending) : Prop := ∃ t, e = .returned (.string t) ∧ Below w.heap.size w w' ∧ ((AsmIs p a ∧ t = ⟨(asmBy a).toArray⟩) ∨ (¬ AsmIs p a ∧ t = ⟨#[]⟩))

theorem AsmIs.small {p : List FnM} {a : AsM} (h : AsmIs p a) : a.code.length ≤ 60 ∧ a.maps.length = a.code.length ∧ ∀ j, j < a.code.length → Small (a.code.getD j default) (a.maps.getD j []) := by
  obtain ⟨⟨hR, hin⟩, h1, h2, hs, hrun, hk⟩ := h
  have hin' : 0 ≤ a.func ∧ a.func < p.length := by simpa [inL] using hin
  obtain ⟨f, hf⟩ := Int.eq_ofNat_of_zero_le hin'.1
  rw [hf] at h1 h2 hrun hk hin
  have hkf : f < p.length := by omega
  obtain ⟨hfo, -, -⟩ := ((hR.all).2.2 f hkf).well rfl
  have hform : (fnAt p f).code.length ≤ 60 ∧ 0 ≤ (fnAt p f).locals ∧ (fnAt p f).locals ≤ 8 := by simp [formOk] at hfo; omega
  obtain ⟨hs', hrun', hl', -, -, h08, -⟩ := hR.heights f hkf
  have he : hs = hs' := by have := hrun.unique hrun'; simpa using this
  subst he
  refine ⟨by omega, by omega, fun j hj => ?_⟩
  have hp := hk j hj
  unfold placeOk at hp
  by_cases hneg : hs.getD j 0 < 0
  · rw [if_pos hneg] at hp
    simp only [Bool.and_eq_true, decide_eq_true_eq] at hp
    rw [hp.1]
    exact ⟨by simp [bareNop], by simp [bareNop], by omega⟩
  · rw [if_neg hneg] at hp
    simp only [Bool.and_eq_true, aiOk, mapOk, decide_eq_true_eq] at hp
    obtain ⟨⟨⟨⟨k1, -⟩, -⟩, k2⟩, k3, -⟩ := hp
    have := fieldsOk_few hR.args k2
    have := h08 j (by omega)
    exact ⟨k1, by omega, by omega⟩

theorem AsM.ok_at {a : AsM} (h : a.ok) (j : Nat) (hj : j < a.code.length) (hm : j < a.maps.length) : (a.code.getD j default).ok ∧ I64v (a.maps.getD j []) := by
  have e1 : a.code.getD j default = a.code[j] := by simp [List.getD, hj]
  have e2 : a.maps.getD j [] = a.maps[j] := by simp [List.getD, hm]
  rw [e1, e2]
  exact ⟨h.2.1 _ (List.getElem_mem hj), h.2.2 _ (List.getElem_mem hm)⟩

/-- the first places' bytes of right code are few -/
theorem AsmIs.few {p : List FnM} {a : AsM} (h : AsmIs p a) (ho : a.ok) (q : Nat) (hq : q ≤ a.code.length) : (placesB a q).length ≤ 70800 := by
  obtain ⟨h1, h2, h3⟩ := h.small
  have := placesB_len a q (fun j hj => by
    obtain ⟨k1, k2⟩ := AsM.ok_at ho j (by omega) (by omega)
    exact placeB_len k1 k2 (h3 j (by omega)))
  omega
end Go.Proofs.YtijgonjnmibifaaGreatDoor

namespace Go.Proofs.YtijgonjnmibifaaGreatDoor
open Go.RowKit

set_option maxRecDepth 100000 in
set_option maxHeartbeats 3200000 in
theorem implAppVals {B : Nat} (y : Value) (l : List UInt8) (v : Value) (c : List (Int × Int)) (w : World) (ho : Own8 B w y l) (hrow : ∀ W, KeepT B w W → InsRow 0 W v c) (hI : I64v c) (hl16 : c.length ≤ 16) (hlen : l.length ≤ 90000) (hB : B ≤ w.heap.size) :
    Calls Tryz.prog 31 #[y, v] w fun e w' => ∃ y', e = .returned y' ∧ Own8 B w' y' (l ++ valsB c) ∧ KeepT B w w' := by
  have HO : Hid (Own8 B w y l) := ho
  have Hrow : Hid (∀ W, KeepT B w W → InsRow 0 W v c) := hrow
  have HI : Hid (I64v c) := hI
  have HB : Hid (B ≤ w.heap.size) := hB
  have hr0 := hrow w (KeepT.refl _ _)
  obtain ⟨A, cap, rfl⟩ := ho.form
  obtain ⟨D, dap, rfl⟩ := hr0.form
  clear ho hrow hI hr0
  have hIc : I64 (c.length : Int) := i64_len (by omega)
  have HL := appendLit (B := B) (.slice A l.length cap) l [(c.length : Int)] w 1 HO.out (fun z hz => by simp at hz; subst hz; exact hIc) (by omega) (by simp) hB
  have HLh : Hid (Calls Tryz.prog 29 #[.slice A l.length cap, .slice (some ⟨w.heap.size, 0, none⟩) 1 1] (w.alloc (.cells #[.int .i64 (c.length : Int)] 2)) fun e w' => ∃ y', e = .returned y' ∧ Own8 B w' y' (l ++ nums [(c.length : Int)]) ∧ KeepT B w w') := HL
  clear HL hB
  go_enter Tryz.func31, Tryz.ntmps31
  go_wp2_with fail
  refine HLh.out.mono ?_
  rintro e w1 ⟨y1, rfl, ho1, hk1⟩
  obtain ⟨m0, hm0⟩ : ∃ m0, m0 = l ++ nums [(c.length : Int)] := ⟨_, rfl⟩
  have HM0 : Hid (m0 = l ++ nums [(c.length : Int)]) := hm0
  have hm0l : m0.length ≤ 90010 := by
    have h := nums_len [(c.length : Int)] (fun z hz => by simp at hz; subst hz; exact hIc)
    rw [hm0, List.length_append]; simp at h; omega
  rw [← hm0] at ho1
  have R0 : Hid (Own8 B w1 y1 m0) := ho1
  have T0 : Hid (KeepT B w w1) := hk1
  obtain ⟨A1, c1, rfl⟩ := ho1.form
  clear ho1 hk1 hm0 HLh
  go_wp2_with fail
  go_loopg [0, 14] (c.length) (fun g y i wr => ∃ j : Nat, j ≤ c.length ∧ i = .int .i64 j ∧ c.length ≤ j + g ∧ (∃ mm, mm = m0 ++ insB (c.take j) ∧ Own8 B wr y mm) ∧ KeepT B w wr)
  case atStart => exact ⟨0, Nat.zero_le _, rfl, by omega, ⟨m0, by simp [insB], R0.out⟩, T0.out⟩
  case round =>
    obtain ⟨j, hj, rfl, hjg, ⟨n0, hn0, ho⟩, hk⟩ := hrel
    have Hn0 : Hid (n0 = m0 ++ insB (c.take j)) := hn0
    have hnl : n0.length ≤ 95000 := by
      have h := insB_len (c.take j) (fun i hi => HI.out i (List.mem_of_mem_take hi))
      have h2 : (c.take j).length ≤ 16 := by simp; omega
      rw [hn0, List.length_append]; omega
    have ON : Hid (Own8 B wr u0 n0) := ho
    have KN : Hid (KeepT B w wr) := hk
    have hBr : B ≤ wr.heap.size := Nat.le_trans HB.out hk.below.size
    obtain ⟨An0, cn0, rfl⟩ := ho.form
    have gins := Hrow.out wr hk
    clear hn0 ho hk
    by_cases hjl : j < c.length
    · obtain ⟨bi, oi, hAc, hlti, s0, s1⟩ := gins.at j hjl
      subst hAc
      obtain ⟨x0, hx0⟩ : ∃ x, x = c[j].1 := ⟨_, rfl⟩
      rw [← hx0] at s0
      obtain ⟨x1, hx1⟩ : ∃ x, x = c[j].2 := ⟨_, rfl⟩
      rw [← hx1] at s1
      have hI0 : I64 x0 := by rw [hx0]; exact (HI.out _ (List.getElem_mem hjl)).1
      have hI1 : I64 x1 := by rw [hx1]; exact (HI.out _ (List.getElem_mem hjl)).2
      have Hx : Hid (x0 = c[j].1 ∧ x1 = c[j].2) := ⟨hx0, hx1⟩
      have hjl' : (j : Int) < c.length := by omega
      obtain ⟨wi, hwi⟩ : ∃ wi, wi = wr.alloc (.cells #[.int .i64 x0, .int .i64 x1] 62) := ⟨_, rfl⟩
      have hali : Below wr.heap.size wr wi := by rw [hwi]; exact (Below.refl _ _).alloc (Nat.le_refl _) _
      have KI : Hid (KeepT B w wi) := KN.out.trans (KeepT.of_below hali hBr)
      have HL := appendLit (B := B) (.slice An0 n0.length cn0) n0 [x0, x1] wi 2 (ON.out.keep hali) (fun z hz => by simp at hz; rcases hz with rfl | rfl; exact hI0; exact hI1) (by omega) (by simp) (Nat.le_trans hBr hali.size)
      have HLh : Hid (Calls Tryz.prog 29 #[.slice An0 n0.length cn0, .slice (some ⟨wi.heap.size, 0, none⟩) 2 2] (wi.alloc (.cells #[.int .i64 x0, .int .i64 x1] 2)) fun e w' => ∃ y', e = .returned y' ∧ Own8 B w' y' (n0 ++ nums [x0, x1]) ∧ KeepT B wi w') := HL
      have hwis : wi.heap.size = wr.heap.size + 1 := by rw [hwi]; simp
      rw [hwis] at HLh
      clear hx0 hx1 gins HL hali hwis
      go_wp2_with fail
      rw [← hwi]
      refine HLh.out.mono ?_
      rintro e a5 ⟨y5, rfl, ho5, hk5⟩
      have He : Hid (n0 ++ nums [x0, x1] = m0 ++ insB (c.take (j + 1))) := by
        show n0 ++ nums [x0, x1] = _
        rw [insB_take c j hjl, ← Hx.out.1, ← Hx.out.2, Hn0.out]
        simp [nums]
      obtain ⟨n2, hn2⟩ : ∃ n2, n2 = n0 ++ nums [x0, x1] := ⟨_, rfl⟩
      rw [← hn2] at He ho5
      have R5 : Hid (Own8 B a5 y5 n2) := ho5
      have T5 : Hid (KeepT B w a5) := KI.out.trans hk5
      obtain ⟨Am5, cm5, rfl⟩ := ho5.form
      clear ho5 hk5 HLh hwi hn2
      go_wp2_with fail
      go_roundg (c.length - (j + 1))
      case measure => omega
      case rel => exact ⟨j + 1, by omega, by go_num, by omega, ⟨_, He.out, R5.out⟩, T5.out⟩
    · have hje : j = c.length := by omega
      have He : Hid (n0 = l ++ valsB c) := by
        show n0 = _
        rw [Hn0.out, hje, List.take_length, HM0.out]
        simp [valsB]
      clear hje
      go_wp2_with fail
      go_ret
      exact ⟨_, rfl, by rw [← He.out]; exact ON.out, KN.out⟩

set_option maxRecDepth 100000 in
set_option maxHeartbeats 3200000 in
theorem implAppMoves {B : Nat} (y : Value) (l : List UInt8) (v : Value) (c : List MvM) (w : World) (ho : Own8 B w y l) (hrow : ∀ W, KeepT B w W → MvRow 0 W v c) (hI : ∀ m ∈ c, m.ok) (hl16 : c.length ≤ 16) (hlen : l.length ≤ 90000) (hB : B ≤ w.heap.size) :
    Calls Tryz.prog 30 #[y, v] w fun e w' => ∃ y', e = .returned y' ∧ Own8 B w' y' (l ++ movsB c) ∧ KeepT B w w' := by
  have HO : Hid (Own8 B w y l) := ho
  have Hrow : Hid (∀ W, KeepT B w W → MvRow 0 W v c) := hrow
  have HI : Hid (∀ m ∈ c, m.ok) := hI
  have HB : Hid (B ≤ w.heap.size) := hB
  have hr0 := hrow w (KeepT.refl _ _)
  obtain ⟨A, cap, rfl⟩ := ho.form
  obtain ⟨D, dap, rfl⟩ := hr0.form
  clear ho hrow hI hr0
  have hIc : I64 (c.length : Int) := i64_len (by omega)
  have HL := appendLit (B := B) (.slice A l.length cap) l [(c.length : Int)] w 1 HO.out (fun z hz => by simp at hz; subst hz; exact hIc) (by omega) (by simp) hB
  have HLh : Hid (Calls Tryz.prog 29 #[.slice A l.length cap, .slice (some ⟨w.heap.size, 0, none⟩) 1 1] (w.alloc (.cells #[.int .i64 (c.length : Int)] 2)) fun e w' => ∃ y', e = .returned y' ∧ Own8 B w' y' (l ++ nums [(c.length : Int)]) ∧ KeepT B w w') := HL
  clear HL hB
  go_enter Tryz.func30, Tryz.ntmps30
  go_wp2_with fail
  refine HLh.out.mono ?_
  rintro e w1 ⟨y1, rfl, ho1, hk1⟩
  obtain ⟨m0, hm0⟩ : ∃ m0, m0 = l ++ nums [(c.length : Int)] := ⟨_, rfl⟩
  have HM0 : Hid (m0 = l ++ nums [(c.length : Int)]) := hm0
  have hm0l : m0.length ≤ 90010 := by
    have h := nums_len [(c.length : Int)] (fun z hz => by simp at hz; subst hz; exact hIc)
    rw [hm0, List.length_append]; simp at h; omega
  rw [← hm0] at ho1
  have R0 : Hid (Own8 B w1 y1 m0) := ho1
  have T0 : Hid (KeepT B w w1) := hk1
  obtain ⟨A1, c1, rfl⟩ := ho1.form
  clear ho1 hk1 hm0 HLh
  go_wp2_with fail
  go_loopg [0, 14] (c.length) (fun g y i wr => ∃ j : Nat, j ≤ c.length ∧ i = .int .i64 j ∧ c.length ≤ j + g ∧ (∃ mm, mm = m0 ++ movB (c.take j) ∧ Own8 B wr y mm) ∧ KeepT B w wr)
  case atStart => exact ⟨0, Nat.zero_le _, rfl, by omega, ⟨m0, by simp [movB], R0.out⟩, T0.out⟩
  case round =>
    obtain ⟨j, hj, rfl, hjg, ⟨n0, hn0, ho⟩, hk⟩ := hrel
    have Hn0 : Hid (n0 = m0 ++ movB (c.take j)) := hn0
    have hnl : n0.length ≤ 95000 := by
      have h := movB_len (c.take j) (fun i hi => HI.out i (List.mem_of_mem_take hi))
      have h2 : (c.take j).length ≤ 16 := by simp; omega
      rw [hn0, List.length_append]; omega
    have ON : Hid (Own8 B wr u0 n0) := ho
    have KN : Hid (KeepT B w wr) := hk
    have hBr : B ≤ wr.heap.size := Nat.le_trans HB.out hk.below.size
    obtain ⟨An0, cn0, rfl⟩ := ho.form
    have gins := Hrow.out wr hk
    clear hn0 ho hk
    by_cases hjl : j < c.length
    · obtain ⟨bi, oi, hAc, hlti, s0, s1, s2⟩ := gins.at j hjl
      subst hAc
      obtain ⟨x0, hx0⟩ : ∃ x, x = c[j].to := ⟨_, rfl⟩
      rw [← hx0] at s0
      obtain ⟨x1, hx1⟩ : ∃ x, x = c[j].kind := ⟨_, rfl⟩
      rw [← hx1] at s1
      obtain ⟨x2, hx2⟩ : ∃ x, x = c[j].n := ⟨_, rfl⟩
      rw [← hx2] at s2
      have hI0 : I64 x0 := by rw [hx0]; exact (HI.out _ (List.getElem_mem hjl)).1
      have hI1 : I64 x1 := by rw [hx1]; exact (HI.out _ (List.getElem_mem hjl)).2.1
      have hI2 : I64 x2 := by rw [hx2]; exact (HI.out _ (List.getElem_mem hjl)).2.2
      have Hx : Hid (x0 = c[j].to ∧ x1 = c[j].kind ∧ x2 = c[j].n) := ⟨hx0, hx1, hx2⟩
      have hjl' : (j : Int) < c.length := by omega
      obtain ⟨wi, hwi⟩ : ∃ wi, wi = wr.alloc (.cells #[.int .i64 x0, .int .i64 x1, .int .i64 x2] 64) := ⟨_, rfl⟩
      have hali : Below wr.heap.size wr wi := by rw [hwi]; exact (Below.refl _ _).alloc (Nat.le_refl _) _
      have KI : Hid (KeepT B w wi) := KN.out.trans (KeepT.of_below hali hBr)
      have HL := appendLit (B := B) (.slice An0 n0.length cn0) n0 [x0, x1, x2] wi 3 (ON.out.keep hali) (fun z hz => by simp at hz; rcases hz with rfl | rfl | rfl; exact hI0; exact hI1; exact hI2) (by omega) (by simp) (Nat.le_trans hBr hali.size)
      have HLh : Hid (Calls Tryz.prog 29 #[.slice An0 n0.length cn0, .slice (some ⟨wi.heap.size, 0, none⟩) 3 3] (wi.alloc (.cells #[.int .i64 x0, .int .i64 x1, .int .i64 x2] 2)) fun e w' => ∃ y', e = .returned y' ∧ Own8 B w' y' (n0 ++ nums [x0, x1, x2]) ∧ KeepT B wi w') := HL
      have hwis : wi.heap.size = wr.heap.size + 1 := by rw [hwi]; simp
      rw [hwis] at HLh
      clear hx0 hx1 hx2 gins HL hali hwis
      go_wp2_with fail
      rw [← hwi]
      refine HLh.out.mono ?_
      rintro e a5 ⟨y5, rfl, ho5, hk5⟩
      have He : Hid (n0 ++ nums [x0, x1, x2] = m0 ++ movB (c.take (j + 1))) := by
        show n0 ++ nums [x0, x1, x2] = _
        rw [movB_take c j hjl, ← Hx.out.1, ← Hx.out.2.1, ← Hx.out.2.2, Hn0.out]
        simp [nums]
      obtain ⟨n2, hn2⟩ : ∃ n2, n2 = n0 ++ nums [x0, x1, x2] := ⟨_, rfl⟩
      rw [← hn2] at He ho5
      have R5 : Hid (Own8 B a5 y5 n2) := ho5
      have T5 : Hid (KeepT B w a5) := KI.out.trans hk5
      obtain ⟨Am5, cm5, rfl⟩ := ho5.form
      clear ho5 hk5 HLh hwi hn2
      go_wp2_with fail
      go_roundg (c.length - (j + 1))
      case measure => omega
      case rel => exact ⟨j + 1, by omega, by go_num, by omega, ⟨_, He.out, R5.out⟩, T5.out⟩
    · have hje : j = c.length := by omega
      have He : Hid (n0 = l ++ movsB c) := by
        show n0 = _
        rw [Hn0.out, hje, List.take_length, HM0.out]
        simp [movsB]
      clear hje
      go_wp2_with fail
      go_ret
      exact ⟨_, rfl, by rw [← He.out]; exact ON.out, KN.out⟩
end Go.Proofs.YtijgonjnmibifaaGreatDoor

namespace Go.Proofs.YtijgonjnmibifaaGreatDoor
open Go.RowKit

set_option maxRecDepth 100000 in
set_option maxHeartbeats 6400000 in
theorem implAsmBytes (v x y : Value) (p : List FnM) (a : AsM) (w : World) (ht : Tab w) (hr : FnRow 0 w v p) (ha : AsRow 0 w x y a) (hok : a.ok) :
    Calls Tryz.prog 10 #[.agg #[v], asV x y a] w fun e w' => AbTold p a w w' e := by
  have Hr : Hid (FnRow 0 w v p) := hr
  have Ht : Hid (Tab w) := ht
  have Ha : Hid (AsRow 0 w x y a) := ha
  have Hok : Hid a.ok := hok
  have hlc := ha.1.len
  obtain ⟨A, cap, rfl⟩ := hr.form
  obtain ⟨C, cac, rfl⟩ := ha.1.form
  obtain ⟨D, dap, rfl⟩ := ha.2.form
  clear hr ht ha hok
  unfold asV
  obtain ⟨x0, x1, x2⟩ := boxes_new w #[.slice A p.length cap] #[.int .i64 a.func, .slice C a.code.length cac, .slice D a.maps.length dap] 34 39
  have X0 : Hid (Box _ w.heap.size #[.slice A p.length cap]) := x0
  have X1 : Hid (AsBox _ (w.heap.size + 1) (.slice C a.code.length cac) (.slice D a.maps.length dap) a) := x1
  have X2 : Hid (Below w.heap.size w _) := x2
  have hIS := implAsm (.slice A p.length cap) (.slice C a.code.length cac) (.slice D a.maps.length dap) p a _ (Ht.out.below x2) (Hr.out.below x2) (Ha.out.below x2)
  unfold asV at hIS
  have HIS : Hid (Calls Tryz.prog 28 _ _ fun e w' => AsmTold p a _ w' e) := hIS
  clear x0 x1 x2 hIS
  go_enter Tryz.func10, Tryz.ntmps10
  go_wp2_with fail
  refine HIS.out.mono ?_
  rintro e w1 ⟨b, rfl, hb1, hsays⟩
  have Hb1 : Hid (Below w.heap.size w w1) := X2.out.trans (hb1.mono X2.out.size)
  have Y1 : Hid (AsBox w1 (w.heap.size + 1) (.slice C a.code.length cac) (.slice D a.maps.length dap) a) := X1.out.below hb1
  have HA1 : Hid (AsRow 0 w1 (.slice C a.code.length cac) (.slice D a.maps.length dap) a) := Ha.out.below Hb1.out
  clear hb1 X0 X1 X2 HIS
  cases b with
  | false =>
    have Hn : Hid (¬ AsmIs p a) := fun h => by have := hsays.2 h; cases this
    clear hsays
    go_wp2_with fail
    go_ret
    exact ⟨_, rfl, Hb1.out, .inr ⟨Hn.out, rfl⟩⟩
  | true =>
    have hisa : AsmIs p a := hsays.1 rfl
    have HR : Hid (AsmIs p a) := hisa
    obtain ⟨h60, hml, hsm⟩ := hisa.small
    have HSm : Hid (∀ j, j < a.code.length → Small (a.code.getD j default) (a.maps.getD j [])) := hsm
    have Hml : Hid (a.maps.length = a.code.length) := hml
    have HKc : Hid (∀ W, KeepT w1.heap.size w1 W → (W.cell? ⟨w.heap.size + 1, 0, none⟩ = some (.int .i64 a.func) ∧ W.cell? ⟨w.heap.size + 1, 1, none⟩ = some (.slice C a.code.length cac) ∧ W.cell? ⟨w.heap.size + 1, 2, none⟩ = some (.slice D a.maps.length dap)) ∧ w.heap.size + 1 < W.heap.size) := fun W hW => by
      obtain ⟨b, c0, c1, c2⟩ := (Y1.out.below hW.below).cells
      exact ⟨⟨c0, c1, c2⟩, b⟩
    have hIf : I64 a.func := Hok.out.1
    have hIc : I64 (a.code.length : Int) := i64_len (by omega)
    have HL := appendLit (B := w1.heap.size) (.slice none 0 0) [] [a.func, (a.code.length : Int)] w1 2 (Own8.none _ _) (fun z hz => by simp at hz; rcases hz with rfl | rfl; exact hIf; exact hIc) (by simp) (by simp) (Nat.le_refl _)
    have HLh : Hid (Calls Tryz.prog 29 #[.slice none 0 0, .slice (some ⟨w1.heap.size, 0, none⟩) 2 2] (w1.alloc (.cells #[.int .i64 a.func, .int .i64 (a.code.length : Int)] 2)) fun e w' => ∃ y', e = .returned y' ∧ Own8 w1.heap.size w' y' ([] ++ nums [a.func, (a.code.length : Int)]) ∧ KeepT w1.heap.size w1 w') := HL
    obtain ⟨⟨c0, c1, c2⟩, cz⟩ := HKc.out w1 (KeepT.refl _ _)
    clear hsays hisa hsm hml HL
    go_wp2_with fail
    refine HLh.out.mono ?_
    rintro e w2 ⟨y', rfl, ho, hk⟩
    rw [List.nil_append] at ho
    obtain ⟨m1, hm1⟩ : ∃ m1, m1 = nums [a.func, (a.code.length : Int)] := ⟨_, rfl⟩
    have HM1 : Hid (m1 = nums [a.func, (a.code.length : Int)]) := hm1
    have hm1l : m1.length ≤ 20 := by
      have h := nums_len [a.func, (a.code.length : Int)] (fun z hz => by simp at hz; rcases hz with rfl | rfl; exact hIf; exact hIc)
      rw [hm1]; simpa using h
    have hm10 : 0 < m1.length := by
      have := Lib.uvarint_pos (Lib.zigzag a.func)
      rw [hm1]; simp [nums, num]; omega
    rw [← hm1] at ho
    have R1 : Hid (Own8 w1.heap.size w2 y' m1) := ho
    have T1 : Hid (KeepT w1.heap.size w1 w2) := hk
    obtain ⟨Am1, cm1, rfl⟩ := ho.form
    clear ho hk hm1 HLh c0 c1 c2 cz
    obtain ⟨⟨-, c1, -⟩, cz⟩ := HKc.out _ T1.out
    go_wp2_with fail
    clear c1 cz
    go_loopg [5, 22] (a.code.length) (fun g y i wr => ∃ q : Nat, q ≤ a.code.length ∧ i = .int .i64 q ∧ a.code.length ≤ q + g ∧ (∃ m, m = m1 ++ placesB a q ∧ Own8 w1.heap.size wr y m) ∧ KeepT w1.heap.size w1 wr)
    case atStart => exact ⟨0, Nat.zero_le _, rfl, by omega, ⟨m1, by simp [placesB], R1.out⟩, T1.out⟩
    case round =>
      rename World => wo
      obtain ⟨q, hq, rfl, hqg, ⟨m, hm, ho⟩, hk⟩ := hrel
      have Hm : Hid (m = m1 ++ placesB a q) := hm
      have hml : m.length ≤ 70820 := by
        have := HR.out.few Hok.out q hq
        rw [hm, List.length_append]; omega
      have OO : Hid (Own8 w1.heap.size wo u5 m) := ho
      have KK : Hid (KeepT w1.heap.size w1 wo) := hk
      have HG : Hid (a.code.length ≤ q + gk) := hqg
      obtain ⟨Am, cm, rfl⟩ := ho.form
      clear hm ho hk hqg
      by_cases hql : q < a.code.length
      · have hqm : q < a.maps.length := by rw [Hml.out]; exact hql
        obtain ⟨bi, offi, xi, yi, rfl, hlti, e0, e1, e2, e3, e4, hxi, hyi⟩ := HA1.out.1.at q hql
        obtain ⟨bm, offm, xm, rfl, hltm, em, hxm⟩ := HA1.out.2.at q hqm
        obtain ⟨i, Hi⟩ : ∃ i, Hid (i = a.code[q]) := ⟨a.code[q], (rfl : a.code[q] = a.code[q])⟩
        obtain ⟨mp, Hmp⟩ : ∃ m, Hid (m = a.maps[q]) := ⟨a.maps[q], (rfl : a.maps[q] = a.maps[q])⟩
        have hgi : a.code.getD q default = i := by rw [Hi.out]; simp [List.getD, hql]
        have hgm : a.maps.getD q [] = mp := by rw [Hmp.out]; simp [List.getD, hqm]
        rw [← Hi.out] at e1 e2 e4 hxi hyi
        rw [← Hmp.out] at hxm
        have HPb : Hid (placesB a (q + 1) = placesB a q ++ placeB i mp) := by show _ = _; rw [placesB_succ, hgi, hgm]
        obtain ⟨k1, k2⟩ := AsM.ok_at Hok.out q hql hqm
        rw [hgi] at k1
        rw [hgm] at k2
        have hs3 := HSm.out q hql
        rw [hgi, hgm] at hs3
        have HIp : Hid (∀ m ∈ i.pre, m.ok) := k1.1
        have hIo : I64 i.op := k1.2.1
        have hIt : I64 i.to := k1.2.2.1
        have HIl : Hid (I64v i.l) := k1.2.2.2.1
        have hIT : I64 i.t := k1.2.2.2.2
        have HIm : Hid (I64v mp) := k2
        have hs1 := hs3.1
        have hs2 := hs3.2.1
        have hs4 := hs3.2.2
        obtain ⟨X1, z1, rfl⟩ := hxi.form
        obtain ⟨X2, z2, rfl⟩ := hyi.form
        obtain ⟨M1, y1, rfl⟩ := hxm.form
        have Hrw : Hid (∀ W, KeepT w1.heap.size w1 W → MvRow 0 W (.slice X1 i.pre.length z1) i.pre ∧ InsRow 0 W (.slice X2 i.l.length z2) i.l ∧ InsRow 0 W (.slice M1 mp.length y1) mp) := fun W hW => ⟨hxi.below hW.below, hyi.below hW.below, hxm.below hW.below⟩
        have HCl : Hid (∀ W, KeepT w1.heap.size w1 W → W.cell? ⟨bm, offm + q, none⟩ = some (.slice M1 mp.length y1)) := fun W hW => by rw [hW.below.cell (by exact hltm)]; exact em
        have hw0 := KK.out.below
        have f0 : wo.cell? ⟨bi, offi + q * 5, none⟩ = some (.slice X1 i.pre.length z1) := by rw [hw0.cell (by exact hlti)]; exact e0
        have f1 : wo.cell? ⟨bi, offi + q * 5 + 1, none⟩ = some (.int .i64 i.op) := by rw [hw0.cell (by exact hlti)]; exact e1
        have f2 : wo.cell? ⟨bi, offi + q * 5 + 2, none⟩ = some (.int .i64 i.to) := by rw [hw0.cell (by exact hlti)]; exact e2
        have f3 : wo.cell? ⟨bi, offi + q * 5 + 3, none⟩ = some (.slice X2 i.l.length z2) := by rw [hw0.cell (by exact hlti)]; exact e3
        have f4 : wo.cell? ⟨bi, offi + q * 5 + 4, none⟩ = some (.int .i64 i.t) := by rw [hw0.cell (by exact hlti)]; exact e4
        obtain ⟨wf, hwf⟩ : ∃ wf, wf = wo.alloc (.cells #[.slice X1 i.pre.length z1, .int .i64 i.op, .int .i64 i.to, .slice X2 i.l.length z2, .int .i64 i.t] 60) := ⟨_, rfl⟩
        have hal : Below wo.heap.size wo wf := by rw [hwf]; exact (Below.refl _ _).alloc (Nat.le_refl _) _
        have Hty : Hid (wf.heap[wo.heap.size]? = some (Obj.cells #[.slice X1 i.pre.length z1, .int .i64 i.op, .int .i64 i.to, .slice X2 i.l.length z2, .int .i64 i.t] 60 (0, 0))) := by show wf.heap[wo.heap.size]? = _; rw [hwf]; exact heap_alloc_new wo _
        have OF : Hid (Own8 w1.heap.size wf (.slice Am m.length cm) m) := OO.out.keep hal
        have KW : Hid (KeepT w1.heap.size w1 wf) := KK.out.trans (KeepT.of_below hal KK.out.below.size)
        have hbw : w1.heap.size ≤ wf.heap.size := KW.out.below.size
        have HFc : Hid (∀ W, KeepT w1.heap.size wf W → (W.cell? ⟨wo.heap.size, 0, none⟩ = some (.slice X1 i.pre.length z1) ∧ W.cell? ⟨wo.heap.size, 1, none⟩ = some (.int .i64 i.op) ∧ W.cell? ⟨wo.heap.size, 2, none⟩ = some (.int .i64 i.to) ∧ W.cell? ⟨wo.heap.size, 3, none⟩ = some (.slice X2 i.l.length z2) ∧ W.cell? ⟨wo.heap.size, 4, none⟩ = some (.int .i64 i.t)) ∧ wo.heap.size < W.heap.size) := fun W hW => by
          have hT := hW.typed wo.heap.size _ _ _ (by decide) Hty.out
          exact ⟨⟨by simp [World.cell?, hT], by simp [World.cell?, hT], by simp [World.cell?, hT], by simp [World.cell?, hT], by simp [World.cell?, hT]⟩, (Array.getElem?_eq_some_iff.1 hT).1⟩
        have hq0 : (0 : Int) ≤ (q : Int) := by omega
        have hqL : (q : Int) < (a.code.length : Int) := by omega
        have hqM : (q : Int) < (a.maps.length : Int) := by omega
        have HV1 : Hid (Calls Tryz.prog 30 #[.slice Am m.length cm, .slice X1 i.pre.length z1] wf fun e w' => ∃ y', e = .returned y' ∧ Own8 w1.heap.size w' y' (m ++ movsB i.pre) ∧ KeepT w1.heap.size wf w') :=
          implAppMoves (.slice Am m.length cm) m _ i.pre wf OF.out (fun W hW => (Hrw.out W (KW.out.trans hW)).1) HIp.out hs1 (by omega) hbw
        have hlp := movsB_len i.pre HIp.out (by omega)
        have hlv := valsB_len i.l HIl.out (by omega)
        have Hlp : Hid ((movsB i.pre).length ≤ 490) := by show _ ≤ _; omega
        have Hlv : Hid ((valsB i.l).length ≤ 330) := by show _ ≤ _; omega
        clear hxi hyi hxm k1 k2 hs3 hgi hgm e0 e1 e2 e3 e4 em hw0 hal OO hlp hlv
        go_wp2_with fail
        rw [← hwf]
        refine HV1.out.mono ?_
        rintro e a1 ⟨v1, rfl, ho1, hk1⟩
        obtain ⟨n1, hn1⟩ : ∃ n1, n1 = m ++ movsB i.pre := ⟨_, rfl⟩
        have HN1 : Hid (n1 = m ++ movsB i.pre) := hn1
        have hn1l : n1.length ≤ 71400 := by have := Hlp.out; rw [hn1, List.length_append]; omega
        rw [← hn1] at ho1
        have R2 : Hid (Own8 w1.heap.size a1 v1 n1) := ho1
        have T2 : Hid (KeepT w1.heap.size wf a1) := hk1
        obtain ⟨B1, b1, rfl⟩ := ho1.form
        clear ho1 hk1 hn1 HV1 f0 f1 f2 f3 f4 hwf
        have hb1' : w1.heap.size ≤ a1.heap.size := Nat.le_trans hbw T2.out.below.size
        have HL := appendLit (B := w1.heap.size) (.slice B1 n1.length b1) n1 [i.op, i.to, i.t] a1 3 R2.out (fun z hz => by simp at hz; rcases hz with rfl | rfl | rfl; exact hIo; exact hIt; exact hIT) (by omega) (by simp) hb1'
        have HLh : Hid (Calls Tryz.prog 29 #[.slice B1 n1.length b1, .slice (some ⟨a1.heap.size, 0, none⟩) 3 3] (a1.alloc (.cells #[.int .i64 i.op, .int .i64 i.to, .int .i64 i.t] 2)) fun e w' => ∃ y', e = .returned y' ∧ Own8 w1.heap.size w' y' (n1 ++ nums [i.op, i.to, i.t]) ∧ KeepT w1.heap.size a1 w') := HL
        have hl3 := nums_len [i.op, i.to, i.t] (fun z hz => by simp at hz; rcases hz with rfl | rfl | rfl; exact hIo; exact hIt; exact hIT)
        obtain ⟨⟨-, g1, g2, -, g4⟩, gz⟩ := HFc.out a1 T2.out
        clear HL
        go_wp2_with fail
        refine HLh.out.mono ?_
        rintro e a2 ⟨v2, rfl, ho2, hk2⟩
        obtain ⟨n2, hn2⟩ : ∃ n2, n2 = n1 ++ nums [i.op, i.to, i.t] := ⟨_, rfl⟩
        have HN2 : Hid (n2 = n1 ++ nums [i.op, i.to, i.t]) := hn2
        have hn2l : n2.length ≤ 71500 := by rw [hn2, List.length_append]; simp at hl3; omega
        rw [← hn2] at ho2
        have R3 : Hid (Own8 w1.heap.size a2 v2 n2) := ho2
        have T3 : Hid (KeepT w1.heap.size wf a2) := T2.out.trans hk2
        obtain ⟨B2, b2, rfl⟩ := ho2.form
        clear ho2 hk2 hn2 hl3 HLh g1 g2 g4 gz
        have hb2' : w1.heap.size ≤ a2.heap.size := Nat.le_trans hbw T3.out.below.size
        have HV3 : Hid (Calls Tryz.prog 31 #[.slice B2 n2.length b2, .slice X2 i.l.length z2] a2 fun e w' => ∃ y', e = .returned y' ∧ Own8 w1.heap.size w' y' (n2 ++ valsB i.l) ∧ KeepT w1.heap.size a2 w') :=
          implAppVals (.slice B2 n2.length b2) n2 _ i.l a2 R3.out (fun W hW => (Hrw.out W (KW.out.trans (T3.out.trans hW))).2.1) HIl.out hs2 (by omega) hb2'
        obtain ⟨⟨-, -, -, g3, -⟩, gz⟩ := HFc.out a2 T3.out
        go_wp2_with fail
        refine HV3.out.mono ?_
        rintro e a3 ⟨v3, rfl, ho3, hk3⟩
        obtain ⟨n3, hn3⟩ : ∃ n3, n3 = n2 ++ valsB i.l := ⟨_, rfl⟩
        have HN3 : Hid (n3 = n2 ++ valsB i.l) := hn3
        have hn3l : n3.length ≤ 71900 := by have := Hlv.out; rw [hn3, List.length_append]; omega
        rw [← hn3] at ho3
        have R4 : Hid (Own8 w1.heap.size a3 v3 n3) := ho3
        have T4 : Hid (KeepT w1.heap.size wf a3) := T3.out.trans hk3
        obtain ⟨B3, b3, rfl⟩ := ho3.form
        clear ho3 hk3 hn3 HV3 g3 gz
        have hb3' : w1.heap.size ≤ a3.heap.size := Nat.le_trans hbw T4.out.below.size
        have HV4 : Hid (Calls Tryz.prog 31 #[.slice B3 n3.length b3, .slice M1 mp.length y1] a3 fun e w' => ∃ y', e = .returned y' ∧ Own8 w1.heap.size w' y' (n3 ++ valsB mp) ∧ KeepT w1.heap.size a3 w') :=
          implAppVals (.slice B3 n3.length b3) n3 _ mp a3 R4.out (fun W hW => (Hrw.out W (KW.out.trans (T4.out.trans hW))).2.2) HIm.out hs4 (by omega) hb3'
        obtain ⟨⟨-, -, c2⟩, cz⟩ := HKc.out a3 (KW.out.trans T4.out)
        have cm0 := HCl.out a3 (KW.out.trans T4.out)
        have hbm3 := World.block_lt_of_cell? _ _ cm0
        go_wp2_with fail
        refine HV4.out.mono ?_
        rintro e a4 ⟨v4, rfl, ho4, hk4⟩
        have He : Hid (n3 ++ valsB mp = m1 ++ placesB a (q + 1)) := by
          show n3 ++ valsB mp = _
          rw [HPb.out, HN3.out, HN2.out, HN1.out, Hm.out, placeB]
          simp [List.append_assoc]
        obtain ⟨n4, hn4⟩ : ∃ n4, n4 = n3 ++ valsB mp := ⟨_, rfl⟩
        rw [← hn4] at He ho4
        have R5 : Hid (Own8 w1.heap.size a4 v4 n4) := ho4
        have T5 : Hid (KeepT w1.heap.size w1 a4) := KW.out.trans (T4.out.trans hk4)
        obtain ⟨B4, b4, rfl⟩ := ho4.form
        clear ho4 hk4 HV4 hn4 c2 cz cm0 hbm3
        go_wp2_with fail
        go_roundg (gk - 1)
        case measure => have := HG.out; omega
        case rel => exact ⟨q + 1, by omega, by go_num, (by have := HG.out; omega), ⟨_, He.out, R5.out⟩, T5.out⟩
      · have hqe : q = a.code.length := by omega
        have Hmp : Hid (m = asmBy a) := by show m = _; rw [Hm.out, hqe, HM1.out]; rfl
        have hm0 : 0 < m.length := by rw [Hm.out, List.length_append]; omega
        have hcv := own8_text OO.out hm0
        have H4 : Hid (Below w.heap.size w wo) := Hb1.out.trans (KK.out.below.mono Hb1.out.size)
        clear hqe
        go_wp2_with fail
        go_ret
        exact ⟨_, rfl, H4.out, .inl ⟨HR.out, by rw [Hmp.out]⟩⟩
end Go.Proofs.YtijgonjnmibifaaGreatDoor

namespace Go.Proofs.YtijgonjnmibifaaGreatDoor
open Go.RowKit

set_option maxRecDepth 100000 in
set_option maxHeartbeats 6400000 in
theorem specPutVals {B : Nat} (y : Value) (l : List UInt8) (v : Value) (c : List (Int × Int)) (w : World) (ho : Own8 B w y l) (hrow : ∀ W, KeepT B w W → InsRow 0 W v c) (hI : I64v c) (hl16 : c.length ≤ 16) (hlen : l.length ≤ 90000) (hB : B ≤ w.heap.size) :
    Calls Tryz.prog 24 #[y, v] w fun e w' => ∃ y', e = .returned y' ∧ Own8 B w' y' (l ++ valsB c) ∧ KeepT B w w' := by
  have HO : Hid (Own8 B w y l) := ho
  have Hrow : Hid (∀ W, KeepT B w W → InsRow 0 W v c) := hrow
  have HI : Hid (I64v c) := hI
  have HB : Hid (B ≤ w.heap.size) := hB
  have HK : Hid (KeepT B w w) := KeepT.refl _ _
  have hr0 := hrow w (KeepT.refl _ _)
  obtain ⟨i0, hi, hz0, hz1, hz2⟩ := info_parts Tryz.infoU8
  obtain ⟨A, cap, rfl⟩ := ho.form
  obtain ⟨D, dap, rfl⟩ := hr0.form
  clear ho hrow hI hr0 hB
  have hIc : I64 (c.length : Int) := i64_len (by omega)
  go_enter Tryz.func24, Tryz.ntmps24
  go_wp2_with fail
  refine (specPut ((c.length : Int)) _ (hIc).1 (hIc).2).mono ?_
  rintro e a1 ⟨rfl, hb1⟩
  have P1 : Hid (Own8 B a1 (.slice A l.length cap) l) := HO.out.keep hb1
  have hs1 : B ≤ a1.heap.size := Nat.le_trans (HB.out) hb1.size
  have Q1 : Hid (KeepT B w a1) := HK.out.trans (KeepT.of_below hb1 (HB.out))
  have hw1 : (⟨(Lib.uvarint (Lib.zigzag ((c.length : Int)))).toArray⟩ : ByteArray).size = (num ((c.length : Int))).length := by simp [ByteArray.size, num]
  have hn1 : (num ((c.length : Int))).length ≤ 10 := num_len (hIc)
  clear hb1
  go_wp2_with (at_builtin; refine Lib.wpList_append_own_string _ rfl _ _ 55 9 rfl B 5 i0 Tryz.underlying55 Tryz.underlying9 hi hz0 hz1 hz2 _ _ _ rfl P1.out _ rfl ?x1 ?y1 ?z1 ?_)
  case x1 => rw [hw1]; unfold maxLen; omega
  case y1 => rw [hw1]; omega
  case z1 => exact hs1
  intro v1 b1 hown hg hnil
  obtain ⟨m1, hm1⟩ : ∃ mm, mm = l ++ num ((c.length : Int)) := ⟨_, rfl⟩
  have R1 : Hid (Own8 B b1 v1 m1) := by
    show b1.ownsRow B 5 1 v1 _ _
    rw [hm1, byteCells_app, List.length_append]
    rw [strCells_mk] at hown
    exact hown
  have T1 : Hid (KeepT B w b1) := Q1.out.trans (KeepT.grown P1.out hg hs1)
  have ht1 : B ≤ b1.heap.size := Nat.le_trans hs1 hg.size
  have hl1 : m1.length ≤ 90010 := by rw [hm1, List.length_append]; omega
  have HM1 : Hid (m1 = l ++ num ((c.length : Int))) := hm1
  obtain ⟨Am1, cm1, rfl⟩ := R1.out.form
  clear hown hg hnil P1 Q1 hw1 hm1 hn1 hs1
  have HM0 : Hid (m1 = l ++ nums [(c.length : Int)]) := by show m1 = _; rw [HM1.out]; simp [nums]
  go_wp2_with fail
  go_loopg [0, 5] (c.length) (fun g y i wr => ∃ j : Nat, j ≤ c.length ∧ i = .int .i64 j ∧ c.length ≤ j + g ∧ (∃ mm, mm = m1 ++ insB (c.take j) ∧ Own8 B wr y mm) ∧ KeepT B w wr)
  case atStart => exact ⟨0, Nat.zero_le _, rfl, by omega, ⟨m1, by simp [insB], R1.out⟩, T1.out⟩
  case round =>
    obtain ⟨j, hj, rfl, hjg, ⟨n0, hn0, ho⟩, hk⟩ := hrel
    have Hn0 : Hid (n0 = m1 ++ insB (c.take j)) := hn0
    have hnl : n0.length ≤ 95000 := by
      have h := insB_len (c.take j) (fun i hi => HI.out i (List.mem_of_mem_take hi))
      have h2 : (c.take j).length ≤ 16 := by simp; omega
      rw [hn0, List.length_append]; omega
    have ON : Hid (Own8 B wr u0 n0) := ho
    have KN : Hid (KeepT B w wr) := hk
    have hBr : B ≤ wr.heap.size := Nat.le_trans HB.out hk.below.size
    obtain ⟨An0, cn0, rfl⟩ := ho.form
    have gins := Hrow.out wr hk
    clear hn0 ho hk
    by_cases hjl : j < c.length
    · obtain ⟨bi, oi, hAc, hlti, s0, s1⟩ := gins.at j hjl
      subst hAc
      obtain ⟨x0, Hx0⟩ : ∃ x, Hid (x = c[j].1) := ⟨c[j].1, (rfl : c[j].1 = c[j].1)⟩
      obtain ⟨x1, Hx1⟩ : ∃ x, Hid (x = c[j].2) := ⟨c[j].2, (rfl : c[j].2 = c[j].2)⟩
      rw [← Hx0.out] at s0
      rw [← Hx1.out] at s1
      have hI0 : I64 x0 := by rw [Hx0.out]; exact (HI.out _ (List.getElem_mem hjl)).1
      have hI1 : I64 x1 := by rw [Hx1.out]; exact (HI.out _ (List.getElem_mem hjl)).2
      have Hcl : Hid (∀ W, KeepT B w W → W.cell? ⟨bi, oi + j * 2 + 1, none⟩ = some (.int .i64 x1) ∧ bi < W.heap.size) := fun W hW => by
        obtain ⟨bi', oi', hA', hlt', _, s1'⟩ := (Hrow.out W hW).at j hjl
        simp only [Option.some.injEq, Addr.mk.injEq, and_true] at hA'
        obtain ⟨rfl, rfl⟩ := hA'
        rw [← Hx1.out] at s1'
        exact ⟨s1', hlt'⟩
      have hjl' : (j : Int) < c.length := by omega
      clear gins s1
      go_wp2_with fail
      refine (specPut (x0) _ (hI0).1 (hI0).2).mono ?_
      rintro e a2 ⟨rfl, hb2⟩
      have P2 : Hid (Own8 B a2 (.slice An0 n0.length cn0) n0) := ON.out.keep hb2
      have hs2 : B ≤ a2.heap.size := Nat.le_trans (hBr) hb2.size
      have Q2 : Hid (KeepT B w a2) := KN.out.trans (KeepT.of_below hb2 (hBr))
      have hw2 : (⟨(Lib.uvarint (Lib.zigzag (x0))).toArray⟩ : ByteArray).size = (num (x0)).length := by simp [ByteArray.size, num]
      have hn2 : (num (x0)).length ≤ 10 := num_len (hI0)
      clear hb2 s0 hlti
      go_wp2_with (at_builtin; refine Lib.wpList_append_own_string _ rfl _ _ 55 9 rfl B 5 i0 Tryz.underlying55 Tryz.underlying9 hi hz0 hz1 hz2 _ _ _ rfl P2.out _ rfl ?x2 ?y2 ?z2 ?_)
      case x2 => rw [hw2]; unfold maxLen; omega
      case y2 => rw [hw2]; omega
      case z2 => exact hs2
      intro v2 b2 hown hg hnil
      obtain ⟨m2, hm2⟩ : ∃ mm, mm = n0 ++ num (x0) := ⟨_, rfl⟩
      have R2 : Hid (Own8 B b2 v2 m2) := by
        show b2.ownsRow B 5 1 v2 _ _
        rw [hm2, byteCells_app, List.length_append]
        rw [strCells_mk] at hown
        exact hown
      have T2 : Hid (KeepT B w b2) := Q2.out.trans (KeepT.grown P2.out hg hs2)
      have ht2 : B ≤ b2.heap.size := Nat.le_trans hs2 hg.size
      have hl2 : m2.length ≤ 95010 := by rw [hm2, List.length_append]; omega
      have HM2 : Hid (m2 = n0 ++ num (x0)) := hm2
      obtain ⟨Am2, cm2, rfl⟩ := R2.out.form
      clear hown hg hnil P2 Q2 hw2 hm2 hn2 hs2
      obtain ⟨s1, hlti⟩ := Hcl.out _ T2.out
      go_wp2_with fail
      refine (specPut (x1) _ (hI1).1 (hI1).2).mono ?_
      rintro e a3 ⟨rfl, hb3⟩
      have P3 : Hid (Own8 B a3 (.slice Am2 m2.length cm2) m2) := R2.out.keep hb3
      have hs3 : B ≤ a3.heap.size := Nat.le_trans (ht2) hb3.size
      have Q3 : Hid (KeepT B w a3) := T2.out.trans (KeepT.of_below hb3 (ht2))
      have hw3 : (⟨(Lib.uvarint (Lib.zigzag (x1))).toArray⟩ : ByteArray).size = (num (x1)).length := by simp [ByteArray.size, num]
      have hn3 : (num (x1)).length ≤ 10 := num_len (hI1)
      clear hb3 s1 hlti
      go_wp2_with (at_builtin; refine Lib.wpList_append_own_string _ rfl _ _ 55 9 rfl B 5 i0 Tryz.underlying55 Tryz.underlying9 hi hz0 hz1 hz2 _ _ _ rfl P3.out _ rfl ?x3 ?y3 ?z3 ?_)
      case x3 => rw [hw3]; unfold maxLen; omega
      case y3 => rw [hw3]; omega
      case z3 => exact hs3
      intro v3 b3 hown hg hnil
      obtain ⟨m3, hm3⟩ : ∃ mm, mm = m2 ++ num (x1) := ⟨_, rfl⟩
      have R3 : Hid (Own8 B b3 v3 m3) := by
        show b3.ownsRow B 5 1 v3 _ _
        rw [hm3, byteCells_app, List.length_append]
        rw [strCells_mk] at hown
        exact hown
      have T3 : Hid (KeepT B w b3) := Q3.out.trans (KeepT.grown P3.out hg hs3)
      have ht3 : B ≤ b3.heap.size := Nat.le_trans hs3 hg.size
      have hl3 : m3.length ≤ 95020 := by rw [hm3, List.length_append]; omega
      have HM3 : Hid (m3 = m2 ++ num (x1)) := hm3
      obtain ⟨Am3, cm3, rfl⟩ := R3.out.form
      clear hown hg hnil P3 Q3 hw3 hm3 hn3 hs3
      have He : Hid (m3 = m1 ++ insB (c.take (j + 1))) := by
        show m3 = _
        rw [insB_take c j hjl, ← Hx0.out, ← Hx1.out, HM3.out, HM2.out, Hn0.out]
        simp [nums]
      go_wp2_with fail
      go_roundg (c.length - (j + 1))
      case measure => omega
      case rel => exact ⟨j + 1, by omega, by go_num, by omega, ⟨_, He.out, R3.out⟩, T3.out⟩
    · have hje : j = c.length := by omega
      have He : Hid (n0 = l ++ valsB c) := by
        show n0 = _
        rw [Hn0.out, hje, List.take_length, HM0.out]
        simp [valsB]
      clear hje
      go_wp2_with fail
      go_ret
      exact ⟨_, rfl, by rw [← He.out]; exact ON.out, KN.out⟩
end Go.Proofs.YtijgonjnmibifaaGreatDoor

namespace Go.Proofs.YtijgonjnmibifaaGreatDoor
open Go.RowKit

set_option maxRecDepth 100000 in
set_option maxHeartbeats 6400000 in
theorem specAsmBytes (v x y : Value) (p : List FnM) (a : AsM) (w : World) (hr : FnRow 0 w v p) (hp : ∀ g ∈ p, g.ok) (ha : AsRow 0 w x y a) (hok : a.ok) :
    Calls Tryz.prog 7 #[.agg #[v], asV x y a] w fun e w' => AbTold p a w w' e := by
  have Hr : Hid (FnRow 0 w v p) := hr
  have Hp : Hid (∀ g ∈ p, g.ok) := hp
  have Ha : Hid (AsRow 0 w x y a) := ha
  have Hok : Hid a.ok := hok
  have hlc := ha.1.len
  obtain ⟨A, cap, rfl⟩ := hr.form
  obtain ⟨C, cac, rfl⟩ := ha.1.form
  obtain ⟨D, dap, rfl⟩ := ha.2.form
  clear hr hp ha hok
  unfold asV
  obtain ⟨x0, x1, x2⟩ := boxes_new w #[.slice A p.length cap] #[.int .i64 a.func, .slice C a.code.length cac, .slice D a.maps.length dap] 34 39
  have X0 : Hid (Box _ w.heap.size #[.slice A p.length cap]) := x0
  have X1 : Hid (AsBox _ (w.heap.size + 1) (.slice C a.code.length cac) (.slice D a.maps.length dap) a) := x1
  have X2 : Hid (Below w.heap.size w _) := x2
  have hIS := specAsm (.slice A p.length cap) (.slice C a.code.length cac) (.slice D a.maps.length dap) p a _ (Hr.out.below x2) Hp.out (Ha.out.below x2)
  unfold asV at hIS
  have HIS : Hid (Calls Tryz.prog 22 _ _ fun e w' => AsmTold p a _ w' e) := hIS
  clear x0 x1 x2 hIS
  go_enter Tryz.func7, Tryz.ntmps7
  go_wp2_with fail
  refine HIS.out.mono ?_
  rintro e w1 ⟨b, rfl, hb1, hsays⟩
  have Hb1 : Hid (Below w.heap.size w w1) := X2.out.trans (hb1.mono X2.out.size)
  have Y1 : Hid (AsBox w1 (w.heap.size + 1) (.slice C a.code.length cac) (.slice D a.maps.length dap) a) := X1.out.below hb1
  have HA1 : Hid (AsRow 0 w1 (.slice C a.code.length cac) (.slice D a.maps.length dap) a) := Ha.out.below Hb1.out
  clear hb1 X0 X1 X2 HIS
  cases b with
  | false =>
    have Hn : Hid (¬ AsmIs p a) := fun h => by have := hsays.2 h; cases this
    clear hsays
    go_wp2_with fail
    go_ret
    exact ⟨_, rfl, Hb1.out, .inr ⟨Hn.out, rfl⟩⟩
  | true =>
    have hisa : AsmIs p a := hsays.1 rfl
    have HR : Hid (AsmIs p a) := hisa
    obtain ⟨h60, hml, hsm⟩ := hisa.small
    have HSm : Hid (∀ j, j < a.code.length → Small (a.code.getD j default) (a.maps.getD j [])) := hsm
    have Hml : Hid (a.maps.length = a.code.length) := hml
    have HKc : Hid (∀ W, KeepT w1.heap.size w1 W → (W.cell? ⟨w.heap.size + 1, 0, none⟩ = some (.int .i64 a.func) ∧ W.cell? ⟨w.heap.size + 1, 1, none⟩ = some (.slice C a.code.length cac) ∧ W.cell? ⟨w.heap.size + 1, 2, none⟩ = some (.slice D a.maps.length dap)) ∧ w.heap.size + 1 < W.heap.size) := fun W hW => by
      obtain ⟨b, c0, c1, c2⟩ := (Y1.out.below hW.below).cells
      exact ⟨⟨c0, c1, c2⟩, b⟩
    have hIf : I64 a.func := Hok.out.1
    have hIc : I64 (a.code.length : Int) := i64_len (by omega)
    have O0 : Hid (Own8 w1.heap.size (w1.alloc (.cells #[] 5)) (.slice (some ⟨w1.heap.size, 0, none⟩) 0 0) []) := by
      have h := Own8.lit w1 [] w1.heap.size (Nat.le_refl _) (by simp)
      show Own8 w1.heap.size (w1.alloc (.cells #[] 5)) (.slice (some ⟨w1.heap.size, 0, none⟩) 0 0) []
      simpa [Lib.byteCells] using h
    obtain ⟨e0, he0⟩ : ∃ e0 : List UInt8, e0 = [] := ⟨_, rfl⟩
    have hel : e0.length = 0 := by rw [he0]; rfl
    have He0 : Hid (e0 = []) := he0
    rw [← he0] at O0
    have K0 : Hid (KeepT w1.heap.size w1 (w1.alloc (.cells #[] 5))) := KeepT.of_below ((Below.refl _ _).alloc (Nat.le_refl _) _) (Nat.le_refl _)
    obtain ⟨i0, hi, hz0, hz1, hz2⟩ := info_parts Tryz.infoU8
    obtain ⟨⟨c0, c1, c2⟩, cz⟩ := HKc.out _ K0.out
    clear hsays hisa hsm hml he0
    go_wp2_with fail
    refine (specPut (a.func) _ (hIf).1 (hIf).2).mono ?_
    rintro e a1 ⟨rfl, hb1⟩
    have P1 : Hid (Own8 w1.heap.size a1 (.slice (some ⟨w1.heap.size, 0, none⟩) 0 0) e0) := O0.out.keep hb1
    have hs1 : w1.heap.size ≤ a1.heap.size := Nat.le_trans (K0.out.below.size) hb1.size
    have Q1 : Hid (KeepT w1.heap.size w1 a1) := K0.out.trans (KeepT.of_below hb1 (K0.out.below.size))
    have hw1 : (⟨(Lib.uvarint (Lib.zigzag (a.func))).toArray⟩ : ByteArray).size = (num (a.func)).length := by simp [ByteArray.size, num]
    have hn1 : (num (a.func)).length ≤ 10 := num_len (hIf)
    clear hb1 c0 c1 c2 cz
    go_wp2_with (at_builtin; refine Lib.wpList_append_own_string _ rfl _ _ 55 9 rfl w1.heap.size 5 i0 Tryz.underlying55 Tryz.underlying9 hi hz0 hz1 hz2 _ _ _ rfl P1.out _ rfl ?x1 ?y1 ?z1 ?_)
    case x1 => rw [hw1]; unfold maxLen; omega
    case y1 => rw [hw1]; omega
    case z1 => exact hs1
    intro v1 b1 hown hg hnil
    obtain ⟨m1, hm1⟩ : ∃ mm, mm = e0 ++ num (a.func) := ⟨_, rfl⟩
    have R1 : Hid (Own8 w1.heap.size b1 v1 m1) := by
      show b1.ownsRow w1.heap.size 5 1 v1 _ _
      rw [hm1, byteCells_app, List.length_append]
      rw [strCells_mk] at hown
      rw [hel]
      first | exact hown | (rw [Nat.zero_add]; exact hown) | (simpa using hown)
    have T1 : Hid (KeepT w1.heap.size w1 b1) := Q1.out.trans (KeepT.grown P1.out hg hs1)
    have ht1 : w1.heap.size ≤ b1.heap.size := Nat.le_trans hs1 hg.size
    have hl1 : m1.length ≤ 10 := by rw [hm1, List.length_append]; omega
    have HM1 : Hid (m1 = e0 ++ num (a.func)) := hm1
    obtain ⟨Am1, cm1, rfl⟩ := R1.out.form
    clear hown hg hnil P1 Q1 hw1 hm1 hn1 hs1
    obtain ⟨⟨-, c1, -⟩, cz⟩ := HKc.out _ T1.out
    go_wp2_with fail
    refine (specPut ((a.code.length : Int)) _ (hIc).1 (hIc).2).mono ?_
    rintro e a2 ⟨rfl, hb2⟩
    have P2 : Hid (Own8 w1.heap.size a2 (.slice Am1 m1.length cm1) m1) := R1.out.keep hb2
    have hs2 : w1.heap.size ≤ a2.heap.size := Nat.le_trans (ht1) hb2.size
    have Q2 : Hid (KeepT w1.heap.size w1 a2) := T1.out.trans (KeepT.of_below hb2 (ht1))
    have hw2 : (⟨(Lib.uvarint (Lib.zigzag ((a.code.length : Int)))).toArray⟩ : ByteArray).size = (num ((a.code.length : Int))).length := by simp [ByteArray.size, num]
    have hn2 : (num ((a.code.length : Int))).length ≤ 10 := num_len (hIc)
    clear hb2 c1 cz
    go_wp2_with (at_builtin; refine Lib.wpList_append_own_string _ rfl _ _ 55 9 rfl w1.heap.size 5 i0 Tryz.underlying55 Tryz.underlying9 hi hz0 hz1 hz2 _ _ _ rfl P2.out _ rfl ?x2 ?y2 ?z2 ?_)
    case x2 => rw [hw2]; unfold maxLen; omega
    case y2 => rw [hw2]; omega
    case z2 => exact hs2
    intro v2 b2 hown hg hnil
    obtain ⟨m2, hm2⟩ : ∃ mm, mm = m1 ++ num ((a.code.length : Int)) := ⟨_, rfl⟩
    have R2 : Hid (Own8 w1.heap.size b2 v2 m2) := by
      show b2.ownsRow w1.heap.size 5 1 v2 _ _
      rw [hm2, byteCells_app, List.length_append]
      rw [strCells_mk] at hown
      exact hown
    have T2 : Hid (KeepT w1.heap.size w1 b2) := Q2.out.trans (KeepT.grown P2.out hg hs2)
    have ht2 : w1.heap.size ≤ b2.heap.size := Nat.le_trans hs2 hg.size
    have hl2 : m2.length ≤ 20 := by rw [hm2, List.length_append]; omega
    have HM2 : Hid (m2 = m1 ++ num ((a.code.length : Int))) := hm2
    obtain ⟨Am2, cm2, rfl⟩ := R2.out.form
    clear hown hg hnil P2 Q2 hw2 hm2 hn2 hs2
    have HMM : Hid (m2 = nums [a.func, (a.code.length : Int)]) := by show m2 = _; rw [HM2.out, HM1.out, He0.out]; simp [nums]
    have hm20 : 0 < m2.length := by
      have := Lib.uvarint_pos (Lib.zigzag a.func)
      rw [HMM.out]; simp [nums, num]; omega
    obtain ⟨⟨-, c1, -⟩, cz⟩ := HKc.out _ T2.out
    go_wp2_with fail
    clear c1 cz
    go_loopg [5, 6] (a.code.length) (fun g y i wr => ∃ q : Nat, q ≤ a.code.length ∧ i = .int .i64 q ∧ a.code.length ≤ q + g ∧ (∃ m, m = m2 ++ placesB a q ∧ Own8 w1.heap.size wr y m) ∧ KeepT w1.heap.size w1 wr)
    case atStart => exact ⟨0, Nat.zero_le _, rfl, by omega, ⟨m2, by simp [placesB], R2.out⟩, T2.out⟩
    case round =>
      rename World => wo
      obtain ⟨q, hq, rfl, hqg, ⟨m, hm, ho⟩, hk⟩ := hrel
      have Hm : Hid (m = m2 ++ placesB a q) := hm
      have hml : m.length ≤ 70820 := by
        have := HR.out.few Hok.out q hq
        rw [hm, List.length_append]; omega
      have OO : Hid (Own8 w1.heap.size wo u5 m) := ho
      have KK : Hid (KeepT w1.heap.size w1 wo) := hk
      obtain ⟨G, HG⟩ : ∃ G, Hid (G = gk ∧ a.code.length ≤ q + G) := ⟨gk, ⟨rfl, hqg⟩⟩
      obtain ⟨⟨-, c1, -⟩, cz⟩ := HKc.out wo hk
      obtain ⟨Am, cm, rfl⟩ := ho.form
      clear hm ho hk hqg
      by_cases hql : q < a.code.length
      · have hqm : q < a.maps.length := by rw [Hml.out]; exact hql
        obtain ⟨bi, offi, xi, yi, rfl, hlti, e0, e1, e2, e3, e4, hxi, hyi⟩ := HA1.out.1.at q hql
        obtain ⟨bm, offm, xm, rfl, hltm, em, hxm⟩ := HA1.out.2.at q hqm
        obtain ⟨i, Hi⟩ : ∃ i, Hid (i = a.code[q]) := ⟨a.code[q], (rfl : a.code[q] = a.code[q])⟩
        obtain ⟨mp, Hmp⟩ : ∃ m, Hid (m = a.maps[q]) := ⟨a.maps[q], (rfl : a.maps[q] = a.maps[q])⟩
        have hgi : a.code.getD q default = i := by rw [Hi.out]; simp [List.getD, hql]
        have hgm : a.maps.getD q [] = mp := by rw [Hmp.out]; simp [List.getD, hqm]
        rw [← Hi.out] at e1 e2 e4 hxi hyi
        rw [← Hmp.out] at hxm
        have HPb : Hid (placesB a (q + 1) = placesB a q ++ placeB i mp) := by show _ = _; rw [placesB_succ, hgi, hgm]
        obtain ⟨k1, k2⟩ := AsM.ok_at Hok.out q hql hqm
        rw [hgi] at k1
        rw [hgm] at k2
        have hs3 := HSm.out q hql
        rw [hgi, hgm] at hs3
        have HIp : Hid (∀ m ∈ i.pre, m.ok) := k1.1
        have hIo : I64 i.op := k1.2.1
        have hIt : I64 i.to := k1.2.2.1
        have HIl : Hid (I64v i.l) := k1.2.2.2.1
        have hIT : I64 i.t := k1.2.2.2.2
        have HIm : Hid (I64v mp) := k2
        have hs1 := hs3.1
        have hs2 := hs3.2.1
        have hs4 := hs3.2.2
        obtain ⟨X1, z1, rfl⟩ := hxi.form
        obtain ⟨X2, z2, rfl⟩ := hyi.form
        obtain ⟨M1, y1, rfl⟩ := hxm.form
        have Hrw : Hid (∀ W, KeepT w1.heap.size w1 W → MvRow 0 W (.slice X1 i.pre.length z1) i.pre ∧ InsRow 0 W (.slice X2 i.l.length z2) i.l ∧ InsRow 0 W (.slice M1 mp.length y1) mp) := fun W hW => ⟨hxi.below hW.below, hyi.below hW.below, hxm.below hW.below⟩
        have HCl : Hid (∀ W, KeepT w1.heap.size w1 W → W.cell? ⟨bm, offm + q, none⟩ = some (.slice M1 mp.length y1)) := fun W hW => by rw [hW.below.cell (by exact hltm)]; exact em
        have hw0 := KK.out.below
        have f0 : wo.cell? ⟨bi, offi + q * 5, none⟩ = some (.slice X1 i.pre.length z1) := by rw [hw0.cell (by exact hlti)]; exact e0
        have f1 : wo.cell? ⟨bi, offi + q * 5 + 1, none⟩ = some (.int .i64 i.op) := by rw [hw0.cell (by exact hlti)]; exact e1
        have f2 : wo.cell? ⟨bi, offi + q * 5 + 2, none⟩ = some (.int .i64 i.to) := by rw [hw0.cell (by exact hlti)]; exact e2
        have f3 : wo.cell? ⟨bi, offi + q * 5 + 3, none⟩ = some (.slice X2 i.l.length z2) := by rw [hw0.cell (by exact hlti)]; exact e3
        have f4 : wo.cell? ⟨bi, offi + q * 5 + 4, none⟩ = some (.int .i64 i.t) := by rw [hw0.cell (by exact hlti)]; exact e4
        obtain ⟨wf, hwf⟩ : ∃ wf, wf = wo.alloc (.cells #[.slice X1 i.pre.length z1, .int .i64 i.op, .int .i64 i.to, .slice X2 i.l.length z2, .int .i64 i.t] 60) := ⟨_, rfl⟩
        have hal : Below wo.heap.size wo wf := by rw [hwf]; exact (Below.refl _ _).alloc (Nat.le_refl _) _
        have Hty : Hid (wf.heap[wo.heap.size]? = some (Obj.cells #[.slice X1 i.pre.length z1, .int .i64 i.op, .int .i64 i.to, .slice X2 i.l.length z2, .int .i64 i.t] 60 (0, 0))) := by show wf.heap[wo.heap.size]? = _; rw [hwf]; exact heap_alloc_new wo _
        have OF : Hid (Own8 w1.heap.size wf (.slice Am m.length cm) m) := OO.out.keep hal
        have KW : Hid (KeepT w1.heap.size w1 wf) := KK.out.trans (KeepT.of_below hal KK.out.below.size)
        have hbw : w1.heap.size ≤ wf.heap.size := KW.out.below.size
        have HFc : Hid (∀ W, KeepT w1.heap.size wf W → (W.cell? ⟨wo.heap.size, 0, none⟩ = some (.slice X1 i.pre.length z1) ∧ W.cell? ⟨wo.heap.size, 1, none⟩ = some (.int .i64 i.op) ∧ W.cell? ⟨wo.heap.size, 2, none⟩ = some (.int .i64 i.to) ∧ W.cell? ⟨wo.heap.size, 3, none⟩ = some (.slice X2 i.l.length z2) ∧ W.cell? ⟨wo.heap.size, 4, none⟩ = some (.int .i64 i.t)) ∧ wo.heap.size < W.heap.size) := fun W hW => by
          have hT := hW.typed wo.heap.size _ _ _ (by decide) Hty.out
          exact ⟨⟨by simp [World.cell?, hT], by simp [World.cell?, hT], by simp [World.cell?, hT], by simp [World.cell?, hT], by simp [World.cell?, hT]⟩, (Array.getElem?_eq_some_iff.1 hT).1⟩
        have hq0 : (0 : Int) ≤ (q : Int) := by omega
        have hqL : (q : Int) < (a.code.length : Int) := by omega
        have hqM : (q : Int) < (a.maps.length : Int) := by omega
        have hlp := movsB_len i.pre HIp.out (by omega)
        have hlv := valsB_len i.l HIl.out (by omega)
        have Hlp : Hid ((movsB i.pre).length ≤ 490) := by show _ ≤ _; omega
        have Hlv : Hid ((valsB i.l).length ≤ 330) := by show _ ≤ _; omega
        clear hxi hyi hxm k1 k2 hs3 hgi hgm e0 e1 e2 e3 e4 em hw0 hal OO hlp hlv
        have hIp : I64 (i.pre.length : Int) := i64_len (by omega)
        have KF : Hid (KeepT w1.heap.size wf wf) := KeepT.refl _ _
        go_upto_region 10 with fail
        rw [← hwf]
        obtain ⟨⟨g0, -, -, -, -⟩, gz⟩ := HFc.out wf (KeepT.refl _ _)
        clear hwf f0 f1 f2 f3 f4 c1 cz
        go_wp2_with fail
        refine (specPut ((i.pre.length : Int)) _ (hIp).1 (hIp).2).mono ?_
        rintro e a3 ⟨rfl, hb3⟩
        have P3 : Hid (Own8 w1.heap.size a3 (.slice Am m.length cm) m) := OF.out.keep hb3
        have hs3 : w1.heap.size ≤ a3.heap.size := Nat.le_trans (hbw) hb3.size
        have Q3 : Hid (KeepT w1.heap.size wf a3) := KF.out.trans (KeepT.of_below hb3 (hbw))
        have hw3 : (⟨(Lib.uvarint (Lib.zigzag ((i.pre.length : Int)))).toArray⟩ : ByteArray).size = (num ((i.pre.length : Int))).length := by simp [ByteArray.size, num]
        have hn3 : (num ((i.pre.length : Int))).length ≤ 10 := num_len (hIp)
        clear hb3 g0 gz
        go_wp2_with (at_builtin; refine Lib.wpList_append_own_string _ rfl _ _ 55 9 rfl w1.heap.size 5 i0 Tryz.underlying55 Tryz.underlying9 hi hz0 hz1 hz2 _ _ _ rfl P3.out _ rfl ?x3 ?y3 ?z3 ?_)
        case x3 => rw [hw3]; unfold maxLen; omega
        case y3 => rw [hw3]; omega
        case z3 => exact hs3
        intro v3 b3 hown hg hnil
        obtain ⟨m3, hm3⟩ : ∃ mm, mm = m ++ num ((i.pre.length : Int)) := ⟨_, rfl⟩
        have R3 : Hid (Own8 w1.heap.size b3 v3 m3) := by
          show b3.ownsRow w1.heap.size 5 1 v3 _ _
          rw [hm3, byteCells_app, List.length_append]
          rw [strCells_mk] at hown
          exact hown
        have T3 : Hid (KeepT w1.heap.size wf b3) := Q3.out.trans (KeepT.grown P3.out hg hs3)
        have ht3 : w1.heap.size ≤ b3.heap.size := Nat.le_trans hs3 hg.size
        have hl3 : m3.length ≤ 70830 := by rw [hm3, List.length_append]; omega
        have HM3 : Hid (m3 = m ++ num ((i.pre.length : Int))) := hm3
        obtain ⟨Am3, cm3, rfl⟩ := R3.out.form
        clear hown hg hnil P3 Q3 hw3 hm3 hn3 hs3
        obtain ⟨⟨g0, -, -, -, -⟩, gz⟩ := HFc.out _ T3.out
        go_wp2_with fail
        clear g0 gz
        go_loopg [5, 8] (i.pre.length) (fun g y ix wr => ∃ j : Nat, j ≤ i.pre.length ∧ ix = .int .i64 j ∧ i.pre.length ≤ j + g ∧ (∃ mm, mm = m3 ++ movB (i.pre.take j) ∧ Own8 w1.heap.size wr y mm) ∧ KeepT w1.heap.size wf wr)
        case atStart => exact ⟨0, Nat.zero_le _, rfl, by omega, ⟨m3, by simp [movB], R3.out⟩, T3.out⟩
        case round =>
          obtain ⟨j, hj, rfl, hjg, ⟨n0, hn0, ho⟩, hk⟩ := hrel
          have Hn0 : Hid (n0 = m3 ++ movB (i.pre.take j)) := hn0
          have hnl : n0.length ≤ 71400 := by
            have h := movB_len (i.pre.take j) (fun m hm => HIp.out m (List.mem_of_mem_take hm))
            have h2 : (i.pre.take j).length ≤ 16 := by simp; omega
            rw [hn0, List.length_append]; omega
          have ON : Hid (Own8 w1.heap.size wr u5 n0) := ho
          have KN : Hid (KeepT w1.heap.size wf wr) := hk
          have hBr : w1.heap.size ≤ wr.heap.size := Nat.le_trans hbw hk.below.size
          obtain ⟨An0, cn0, rfl⟩ := ho.form
          obtain ⟨⟨g0, -, -, -, -⟩, gz⟩ := HFc.out wr hk
          clear hn0 ho hk
          by_cases hjl : j < i.pre.length
          · obtain ⟨bv, ov, hAv, hltv, s0, s1, s2⟩ := (Hrw.out wr (KW.out.trans KN.out)).1.at j hjl
            subst hAv
            obtain ⟨u, Hu⟩ : ∃ u, Hid (u = i.pre[j]) := ⟨i.pre[j], (rfl : i.pre[j] = i.pre[j])⟩
            rw [← Hu.out] at s0 s1 s2
            have hIu : u.ok := by rw [Hu.out]; exact HIp.out _ (List.getElem_mem hjl)
            have hI0 := hIu.1
            have hI1 := hIu.2.1
            have hI2 := hIu.2.2
            have Hcl : Hid (∀ W, KeepT w1.heap.size wf W → W.cell? ⟨bv, ov + j * 3 + 1, none⟩ = some (.int .i64 u.kind) ∧ W.cell? ⟨bv, ov + j * 3 + 2, none⟩ = some (.int .i64 u.n) ∧ bv < W.heap.size ∧ W.cell? ⟨wo.heap.size, 0, none⟩ = some (.slice (some ⟨bv, ov, none⟩) i.pre.length z1) ∧ wo.heap.size < W.heap.size) := fun W hW => by
              obtain ⟨bv', ov', hA', hlt', _, s1', s2'⟩ := (Hrw.out W (KW.out.trans hW)).1.at j hjl
              simp only [Option.some.injEq, Addr.mk.injEq, and_true] at hA'
              obtain ⟨rfl, rfl⟩ := hA'
              rw [← Hu.out] at s1' s2'
              obtain ⟨⟨g0, -⟩, gz⟩ := HFc.out W hW
              exact ⟨s1', s2', hlt', g0, gz⟩
            have hj0 : (0 : Int) ≤ (j : Int) := by omega
            have hjl' : (j : Int) < (i.pre.length : Int) := by omega
            clear s1 s2 hIu
            go_wp2_with fail
            refine (specPut (u.to) _ (hI0).1 (hI0).2).mono ?_
            rintro e a4 ⟨rfl, hb4⟩
            have P4 : Hid (Own8 w1.heap.size a4 (.slice An0 n0.length cn0) n0) := ON.out.keep hb4
            have hs4 : w1.heap.size ≤ a4.heap.size := Nat.le_trans (hBr) hb4.size
            have Q4 : Hid (KeepT w1.heap.size wf a4) := KN.out.trans (KeepT.of_below hb4 (hBr))
            have hw4 : (⟨(Lib.uvarint (Lib.zigzag (u.to))).toArray⟩ : ByteArray).size = (num (u.to)).length := by simp [ByteArray.size, num]
            have hn4 : (num (u.to)).length ≤ 10 := num_len (hI0)
            clear hb4 s0 hltv g0 gz
            go_wp2_with (at_builtin; refine Lib.wpList_append_own_string _ rfl _ _ 55 9 rfl w1.heap.size 5 i0 Tryz.underlying55 Tryz.underlying9 hi hz0 hz1 hz2 _ _ _ rfl P4.out _ rfl ?x4 ?y4 ?z4 ?_)
            case x4 => rw [hw4]; unfold maxLen; omega
            case y4 => rw [hw4]; omega
            case z4 => exact hs4
            intro v4 b4 hown hg hnil
            obtain ⟨m4, hm4⟩ : ∃ mm, mm = n0 ++ num (u.to) := ⟨_, rfl⟩
            have R4 : Hid (Own8 w1.heap.size b4 v4 m4) := by
              show b4.ownsRow w1.heap.size 5 1 v4 _ _
              rw [hm4, byteCells_app, List.length_append]
              rw [strCells_mk] at hown
              exact hown
            have T4 : Hid (KeepT w1.heap.size wf b4) := Q4.out.trans (KeepT.grown P4.out hg hs4)
            have ht4 : w1.heap.size ≤ b4.heap.size := Nat.le_trans hs4 hg.size
            have hl4 : m4.length ≤ 71410 := by rw [hm4, List.length_append]; omega
            have HM4 : Hid (m4 = n0 ++ num (u.to)) := hm4
            obtain ⟨Am4, cm4, rfl⟩ := R4.out.form
            clear hown hg hnil P4 Q4 hw4 hm4 hn4 hs4
            obtain ⟨s1, s2, hltv, g0, gz⟩ := Hcl.out _ T4.out
            go_wp2_with fail
            refine (specPut (u.kind) _ (hI1).1 (hI1).2).mono ?_
            rintro e a5 ⟨rfl, hb5⟩
            have P5 : Hid (Own8 w1.heap.size a5 (.slice Am4 m4.length cm4) m4) := R4.out.keep hb5
            have hs5 : w1.heap.size ≤ a5.heap.size := Nat.le_trans (ht4) hb5.size
            have Q5 : Hid (KeepT w1.heap.size wf a5) := T4.out.trans (KeepT.of_below hb5 (ht4))
            have hw5 : (⟨(Lib.uvarint (Lib.zigzag (u.kind))).toArray⟩ : ByteArray).size = (num (u.kind)).length := by simp [ByteArray.size, num]
            have hn5 : (num (u.kind)).length ≤ 10 := num_len (hI1)
            clear hb5 s1 s2 hltv g0 gz
            go_wp2_with (at_builtin; refine Lib.wpList_append_own_string _ rfl _ _ 55 9 rfl w1.heap.size 5 i0 Tryz.underlying55 Tryz.underlying9 hi hz0 hz1 hz2 _ _ _ rfl P5.out _ rfl ?x5 ?y5 ?z5 ?_)
            case x5 => rw [hw5]; unfold maxLen; omega
            case y5 => rw [hw5]; omega
            case z5 => exact hs5
            intro v5 b5 hown hg hnil
            obtain ⟨m5, hm5⟩ : ∃ mm, mm = m4 ++ num (u.kind) := ⟨_, rfl⟩
            have R5 : Hid (Own8 w1.heap.size b5 v5 m5) := by
              show b5.ownsRow w1.heap.size 5 1 v5 _ _
              rw [hm5, byteCells_app, List.length_append]
              rw [strCells_mk] at hown
              exact hown
            have T5 : Hid (KeepT w1.heap.size wf b5) := Q5.out.trans (KeepT.grown P5.out hg hs5)
            have ht5 : w1.heap.size ≤ b5.heap.size := Nat.le_trans hs5 hg.size
            have hl5 : m5.length ≤ 71420 := by rw [hm5, List.length_append]; omega
            have HM5 : Hid (m5 = m4 ++ num (u.kind)) := hm5
            obtain ⟨Am5, cm5, rfl⟩ := R5.out.form
            clear hown hg hnil P5 Q5 hw5 hm5 hn5 hs5
            obtain ⟨s1, s2, hltv, g0, gz⟩ := Hcl.out _ T5.out
            go_wp2_with fail
            refine (specPut (u.n) _ (hI2).1 (hI2).2).mono ?_
            rintro e a6 ⟨rfl, hb6⟩
            have P6 : Hid (Own8 w1.heap.size a6 (.slice Am5 m5.length cm5) m5) := R5.out.keep hb6
            have hs6 : w1.heap.size ≤ a6.heap.size := Nat.le_trans (ht5) hb6.size
            have Q6 : Hid (KeepT w1.heap.size wf a6) := T5.out.trans (KeepT.of_below hb6 (ht5))
            have hw6 : (⟨(Lib.uvarint (Lib.zigzag (u.n))).toArray⟩ : ByteArray).size = (num (u.n)).length := by simp [ByteArray.size, num]
            have hn6 : (num (u.n)).length ≤ 10 := num_len (hI2)
            clear hb6 s1 s2 hltv g0 gz
            go_wp2_with (at_builtin; refine Lib.wpList_append_own_string _ rfl _ _ 55 9 rfl w1.heap.size 5 i0 Tryz.underlying55 Tryz.underlying9 hi hz0 hz1 hz2 _ _ _ rfl P6.out _ rfl ?x6 ?y6 ?z6 ?_)
            case x6 => rw [hw6]; unfold maxLen; omega
            case y6 => rw [hw6]; omega
            case z6 => exact hs6
            intro v6 b6 hown hg hnil
            obtain ⟨m6, hm6⟩ : ∃ mm, mm = m5 ++ num (u.n) := ⟨_, rfl⟩
            have R6 : Hid (Own8 w1.heap.size b6 v6 m6) := by
              show b6.ownsRow w1.heap.size 5 1 v6 _ _
              rw [hm6, byteCells_app, List.length_append]
              rw [strCells_mk] at hown
              exact hown
            have T6 : Hid (KeepT w1.heap.size wf b6) := Q6.out.trans (KeepT.grown P6.out hg hs6)
            have ht6 : w1.heap.size ≤ b6.heap.size := Nat.le_trans hs6 hg.size
            have hl6 : m6.length ≤ 71430 := by rw [hm6, List.length_append]; omega
            have HM6 : Hid (m6 = m5 ++ num (u.n)) := hm6
            obtain ⟨Am6, cm6, rfl⟩ := R6.out.form
            clear hown hg hnil P6 Q6 hw6 hm6 hn6 hs6
            have He : Hid (m6 = m3 ++ movB (i.pre.take (j + 1))) := by
              show m6 = _
              rw [movB_take i.pre j hjl, ← Hu.out, HM6.out, HM5.out, HM4.out, Hn0.out]
              simp [nums]
            go_wp2_with fail
            go_roundg (i.pre.length - (j + 1))
            case measure => omega
            case rel => exact ⟨j + 1, by omega, by go_num, by omega, ⟨_, He.out, R6.out⟩, T6.out⟩
          · have hje : j = i.pre.length := by omega
            have HN1 : Hid (n0 = m ++ movsB i.pre) := by
              show n0 = _
              rw [Hn0.out, hje, List.take_length, HM3.out]
              simp [movsB, nums]
            clear hje
            go_upto_region 17 with fail
            clear g0 gz
            obtain ⟨⟨-, g1, -, -, -⟩, gz⟩ := HFc.out wr KN.out
            go_wp2_with fail
            refine (specPut (i.op) _ (hIo).1 (hIo).2).mono ?_
            rintro e a7 ⟨rfl, hb7⟩
            have P7 : Hid (Own8 w1.heap.size a7 (.slice An0 n0.length cn0) n0) := ON.out.keep hb7
            have hs7 : w1.heap.size ≤ a7.heap.size := Nat.le_trans (hBr) hb7.size
            have Q7 : Hid (KeepT w1.heap.size wf a7) := KN.out.trans (KeepT.of_below hb7 (hBr))
            have hw7 : (⟨(Lib.uvarint (Lib.zigzag (i.op))).toArray⟩ : ByteArray).size = (num (i.op)).length := by simp [ByteArray.size, num]
            have hn7 : (num (i.op)).length ≤ 10 := num_len (hIo)
            clear hb7 g1 gz
            go_wp2_with (at_builtin; refine Lib.wpList_append_own_string _ rfl _ _ 55 9 rfl w1.heap.size 5 i0 Tryz.underlying55 Tryz.underlying9 hi hz0 hz1 hz2 _ _ _ rfl P7.out _ rfl ?x7 ?y7 ?z7 ?_)
            case x7 => rw [hw7]; unfold maxLen; omega
            case y7 => rw [hw7]; omega
            case z7 => exact hs7
            intro v7 b7 hown hg hnil
            obtain ⟨m7, hm7⟩ : ∃ mm, mm = n0 ++ num (i.op) := ⟨_, rfl⟩
            have R7 : Hid (Own8 w1.heap.size b7 v7 m7) := by
              show b7.ownsRow w1.heap.size 5 1 v7 _ _
              rw [hm7, byteCells_app, List.length_append]
              rw [strCells_mk] at hown
              exact hown
            have T7 : Hid (KeepT w1.heap.size wf b7) := Q7.out.trans (KeepT.grown P7.out hg hs7)
            have ht7 : w1.heap.size ≤ b7.heap.size := Nat.le_trans hs7 hg.size
            have hl7 : m7.length ≤ 71440 := by rw [hm7, List.length_append]; omega
            have HM7 : Hid (m7 = n0 ++ num (i.op)) := hm7
            obtain ⟨Am7, cm7, rfl⟩ := R7.out.form
            clear hown hg hnil P7 Q7 hw7 hm7 hn7 hs7
            obtain ⟨⟨-, -, g2, -, -⟩, gz⟩ := HFc.out _ T7.out
            go_wp2_with fail
            refine (specPut (i.to) _ (hIt).1 (hIt).2).mono ?_
            rintro e a8 ⟨rfl, hb8⟩
            have P8 : Hid (Own8 w1.heap.size a8 (.slice Am7 m7.length cm7) m7) := R7.out.keep hb8
            have hs8 : w1.heap.size ≤ a8.heap.size := Nat.le_trans (ht7) hb8.size
            have Q8 : Hid (KeepT w1.heap.size wf a8) := T7.out.trans (KeepT.of_below hb8 (ht7))
            have hw8 : (⟨(Lib.uvarint (Lib.zigzag (i.to))).toArray⟩ : ByteArray).size = (num (i.to)).length := by simp [ByteArray.size, num]
            have hn8 : (num (i.to)).length ≤ 10 := num_len (hIt)
            clear hb8 g2 gz
            go_wp2_with (at_builtin; refine Lib.wpList_append_own_string _ rfl _ _ 55 9 rfl w1.heap.size 5 i0 Tryz.underlying55 Tryz.underlying9 hi hz0 hz1 hz2 _ _ _ rfl P8.out _ rfl ?x8 ?y8 ?z8 ?_)
            case x8 => rw [hw8]; unfold maxLen; omega
            case y8 => rw [hw8]; omega
            case z8 => exact hs8
            intro v8 b8 hown hg hnil
            obtain ⟨m8, hm8⟩ : ∃ mm, mm = m7 ++ num (i.to) := ⟨_, rfl⟩
            have R8 : Hid (Own8 w1.heap.size b8 v8 m8) := by
              show b8.ownsRow w1.heap.size 5 1 v8 _ _
              rw [hm8, byteCells_app, List.length_append]
              rw [strCells_mk] at hown
              exact hown
            have T8 : Hid (KeepT w1.heap.size wf b8) := Q8.out.trans (KeepT.grown P8.out hg hs8)
            have ht8 : w1.heap.size ≤ b8.heap.size := Nat.le_trans hs8 hg.size
            have hl8 : m8.length ≤ 71450 := by rw [hm8, List.length_append]; omega
            have HM8 : Hid (m8 = m7 ++ num (i.to)) := hm8
            obtain ⟨Am8, cm8, rfl⟩ := R8.out.form
            clear hown hg hnil P8 Q8 hw8 hm8 hn8 hs8
            obtain ⟨⟨-, -, -, -, g4⟩, gz⟩ := HFc.out _ T8.out
            go_wp2_with fail
            refine (specPut (i.t) _ (hIT).1 (hIT).2).mono ?_
            rintro e a9 ⟨rfl, hb9⟩
            have P9 : Hid (Own8 w1.heap.size a9 (.slice Am8 m8.length cm8) m8) := R8.out.keep hb9
            have hs9 : w1.heap.size ≤ a9.heap.size := Nat.le_trans (ht8) hb9.size
            have Q9 : Hid (KeepT w1.heap.size wf a9) := T8.out.trans (KeepT.of_below hb9 (ht8))
            have hw9 : (⟨(Lib.uvarint (Lib.zigzag (i.t))).toArray⟩ : ByteArray).size = (num (i.t)).length := by simp [ByteArray.size, num]
            have hn9 : (num (i.t)).length ≤ 10 := num_len (hIT)
            clear hb9 g4 gz
            go_wp2_with (at_builtin; refine Lib.wpList_append_own_string _ rfl _ _ 55 9 rfl w1.heap.size 5 i0 Tryz.underlying55 Tryz.underlying9 hi hz0 hz1 hz2 _ _ _ rfl P9.out _ rfl ?x9 ?y9 ?z9 ?_)
            case x9 => rw [hw9]; unfold maxLen; omega
            case y9 => rw [hw9]; omega
            case z9 => exact hs9
            intro v9 b9 hown hg hnil
            obtain ⟨m9, hm9⟩ : ∃ mm, mm = m8 ++ num (i.t) := ⟨_, rfl⟩
            have R9 : Hid (Own8 w1.heap.size b9 v9 m9) := by
              show b9.ownsRow w1.heap.size 5 1 v9 _ _
              rw [hm9, byteCells_app, List.length_append]
              rw [strCells_mk] at hown
              exact hown
            have T9 : Hid (KeepT w1.heap.size wf b9) := Q9.out.trans (KeepT.grown P9.out hg hs9)
            have ht9 : w1.heap.size ≤ b9.heap.size := Nat.le_trans hs9 hg.size
            have hl9 : m9.length ≤ 71460 := by rw [hm9, List.length_append]; omega
            have HM9 : Hid (m9 = m8 ++ num (i.t)) := hm9
            obtain ⟨Am9, cm9, rfl⟩ := R9.out.form
            clear hown hg hnil P9 Q9 hw9 hm9 hn9 hs9
            have HV3 : Hid (Calls Tryz.prog 24 #[.slice Am9 m9.length cm9, .slice X2 i.l.length z2] b9 fun e w' => ∃ y', e = .returned y' ∧ Own8 w1.heap.size w' y' (m9 ++ valsB i.l) ∧ KeepT w1.heap.size b9 w') :=
              specPutVals (.slice Am9 m9.length cm9) m9 _ i.l b9 R9.out (fun W hW => (Hrw.out W (KW.out.trans (T9.out.trans hW))).2.1) HIl.out hs2 (by omega) ht9
            obtain ⟨⟨-, -, -, g3, -⟩, gz⟩ := HFc.out b9 T9.out
            go_wp2_with fail
            refine HV3.out.mono ?_
            rintro e a10 ⟨v10, rfl, ho3, hk3⟩
            obtain ⟨n3, hn3⟩ : ∃ n3, n3 = m9 ++ valsB i.l := ⟨_, rfl⟩
            have HN3 : Hid (n3 = m9 ++ valsB i.l) := hn3
            have hn3l : n3.length ≤ 71900 := by have := Hlv.out; rw [hn3, List.length_append]; omega
            rw [← hn3] at ho3
            have R10 : Hid (Own8 w1.heap.size a10 v10 n3) := ho3
            have T10 : Hid (KeepT w1.heap.size wf a10) := T9.out.trans hk3
            obtain ⟨B3, b3, rfl⟩ := ho3.form
            clear ho3 hk3 hn3 HV3 g3 gz
            have hb3' : w1.heap.size ≤ a10.heap.size := Nat.le_trans hbw T10.out.below.size
            have HV4 : Hid (Calls Tryz.prog 24 #[.slice B3 n3.length b3, .slice M1 mp.length y1] a10 fun e w' => ∃ y', e = .returned y' ∧ Own8 w1.heap.size w' y' (n3 ++ valsB mp) ∧ KeepT w1.heap.size a10 w') :=
              specPutVals (.slice B3 n3.length b3) n3 _ mp a10 R10.out (fun W hW => (Hrw.out W (KW.out.trans (T10.out.trans hW))).2.2) HIm.out hs4 (by omega) hb3'
            obtain ⟨⟨-, -, c2⟩, cz⟩ := HKc.out a10 (KW.out.trans T10.out)
            have cm0 := HCl.out a10 (KW.out.trans T10.out)
            have hbm3 := World.block_lt_of_cell? _ _ cm0
            go_wp2_with fail
            refine HV4.out.mono ?_
            rintro e a11 ⟨v11, rfl, ho4, hk4⟩
            have He : Hid (n3 ++ valsB mp = m2 ++ placesB a (q + 1)) := by
              show n3 ++ valsB mp = _
              rw [HPb.out, HN3.out, HM9.out, HM8.out, HM7.out, HN1.out, Hm.out, placeB]
              simp [List.append_assoc, nums]
            obtain ⟨n4, hn4⟩ : ∃ n4, n4 = n3 ++ valsB mp := ⟨_, rfl⟩
            rw [← hn4] at He ho4
            have R11 : Hid (Own8 w1.heap.size a11 v11 n4) := ho4
            have T11 : Hid (KeepT w1.heap.size w1 a11) := KW.out.trans (T10.out.trans hk4)
            obtain ⟨B4, b4, rfl⟩ := ho4.form
            clear ho4 hk4 HV4 hn4 c2 cz cm0 hbm3
            go_wp2_with fail
            go_roundg (G - 1)
            case measure => have := HG.out; omega
            case rel => exact ⟨q + 1, by omega, by go_num, (by have := HG.out; omega), ⟨_, He.out, R11.out⟩, T11.out⟩
      · have hqe : q = a.code.length := by omega
        have Hmp : Hid (m = asmBy a) := by show m = _; rw [Hm.out, hqe, HMM.out]; rfl
        have hm0 : 0 < m.length := by rw [Hm.out, List.length_append]; omega
        have hcv := own8_text OO.out hm0
        have H4 : Hid (Below w.heap.size w wo) := Hb1.out.trans (KK.out.below.mono Hb1.out.size)
        clear hqe
        go_wp2_with fail
        go_ret
        exact ⟨_, rfl, H4.out, .inl ⟨HR.out, by rw [Hmp.out]⟩⟩
end Go.Proofs.YtijgonjnmibifaaGreatDoor
