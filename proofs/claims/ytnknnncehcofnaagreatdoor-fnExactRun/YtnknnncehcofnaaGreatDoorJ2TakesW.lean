/- impl.Takes, spec.Takes. A map of int64 keys that a call has just laid: what an insert of a new key, and a look-up, do to it. Bitwise ops on int64: the six lowest bits; a bitwise sum taken twice. Ops of two numbers: what impl.Binary and spec.Binary answer, as one plain function, and that both calls answer just that. -/
import Derived.Test.YtnknnncehcofnaaGreatDoorJ1OpTab
import Derived.Test.YtnknnncehcofnaaGreatDoorRows
import Derived.WalkKit
import Derived.WalkLawsBesides
import Derived.WalkSpells
import Derived.Maps.Own
import Derived.Below
import Derived.Laws.Bits64
import Derived.Laws.BitsAllLaws
import Derived.Laws.EntriesVeiled
namespace Go.Proofs.YtnknnncehcofnaaGreatDoor
open Go.RowKit

/-- the function of that number, or one of noughts -/
def fnAt (p : List FnM) (a : Int) : FnM := p.getD a.toNat ⟨0, 0, []⟩

def takesM (p : List FnM) (op a : Int) : Int := if op = 32 then (if 0 ≤ a ∧ a < p.length then (fnAt p a).args else 0) else (opRow op).2.2.1

theorem arg_call (op : Int) (h : op ≠ 32) : ((opRow op).2.1 == 4) = false := by
  refine opRow_of op (P := fun r => (r.2.1 == 4) = false) (fun _ => rfl) (fun k hk he => ?_)
  subst he
  have : ∀ k : Fin 39, k.1 ≠ 32 → ((opN k.1).2.1 == 4) = false := by decide
  exact this ⟨k, hk⟩ (by show k ≠ 32; omega)

set_option maxHeartbeats 800000 in
theorem implTakes {B : Nat} (v : Value) (p : List FnM) (op a : Int) (w : World) (ht : Tab w) (hr : FnRow B w v p) :
    Calls Tryz.prog 182 #[.agg #[v], .agg #[.int .i64 op, .int .i64 a]] w fun e w' => e = .returned (.int .i64 (takesM p op a)) ∧ Below w.heap.size w w' := by
  have Hr : Hid (FnRow B w v p) := hr
  have hlen := hr.len
  obtain ⟨A, cap, rfl⟩ := hr.form
  have Ht : Hid (∀ o o', Tab ((w.alloc o).alloc o')) := fun o o' => ht.below (((Below.refl _ _).alloc (Nat.le_refl _) _).alloc (by simp) _)
  clear hr ht
  go_enter Tryz.func182, Tryz.ntmps182
  go_wp2_with fail
  refine (rowOf op _ (Ht.out _ _)).mono ?_
  rintro e w1 ⟨rfl, hb⟩
  obtain ⟨x0, x1, x2⟩ := boxes_new w #[.slice A p.length cap] #[.int .i64 op, .int .i64 a] 25 112
  have Hb : Hid (Below w.heap.size w w1) := x2.trans (hb.mono (by simp; omega))
  have hB0 := x0.below hb
  have hB1 := x1.below hb
  have hz0 := hB0.1
  have hz1 := hB1.1
  have c0 := hB0.at0
  have d0 := hB1.at0
  have d1 := hB1.at1
  have Hr1 : Hid (FnRow B w1 (.slice A p.length cap) p) := Hr.out.below Hb.out
  clear hb x0 x1 x2 hB0 hB1 Ht Hr
  by_cases h32 : op = 32
  · subst h32
    rw [show opRow 32 = ([99, 97, 108, 108], 4, 0, 1) from rfl]
    go_wp2_with fail
    refine (inList a p.length _ hlen).mono ?_
    rintro e w2 ⟨rfl, h⟩
    subst w2
    by_cases hin : 0 ≤ a ∧ a < p.length
    · have hL : inL a p.length = true := by simpa [inL] using hin
      rw [hL]
      obtain ⟨k, rfl⟩ := Int.eq_ofNat_of_zero_le hin.1
      have hk : k < p.length := by omega
      have HT : Hid (takesM p 32 k = p[k].args) := show takesM p 32 k = p[k].args from by simp [takesM, hk, fnAt, List.getD]
      obtain ⟨b, off, x, rfl, hlt, e0, _, _, _⟩ := Hr1.out.at k hk
      go_wp2_with fail
      go_ret
      exact ⟨by rw [Hid.out HT]; rfl, Hb.out.alloc (by omega) _⟩
    · have hL : inL a p.length = false := by simp only [inL, decide_eq_false_iff_not]; exact hin
      have HT : Hid (takesM p 32 a = 0) := show takesM p 32 a = 0 from by simp only [takesM, if_true, if_neg hin]
      rw [hL]
      go_wp2_with fail
      go_ret
      exact ⟨by rw [Hid.out HT]; rfl, Hb.out.alloc (by omega) _⟩
  · have harg := arg_call op h32
    have HT : Hid (takesM p op a = (opRow op).2.2.1) := show takesM p op a = (opRow op).2.2.1 from by simp only [takesM, if_neg h32]
    go_wp2_with fail
    go_ret
    exact ⟨by rw [Hid.out HT]; rfl, Hb.out.alloc (by omega) _⟩

theorem takes_two (op : Int) (h : isBin op = true ∨ op = 35) : (opRow op).2.2.1 = 2 := by
  have h1 : 10 ≤ op ∧ op ≤ 23 ∨ op = 35 := by simp [isBin] at h; omega
  obtain ⟨k, rfl⟩ := Int.eq_ofNat_of_zero_le (show 0 ≤ op by omega)
  have : ∀ k : Fin 39, (10 ≤ k.1 ∧ k.1 ≤ 23 ∨ k.1 = 35) → (opRow (k.1 : Int)).2.2.1 = 2 := by decide
  exact this ⟨k, by omega⟩ (by show 10 ≤ k ∧ k ≤ 23 ∨ k = 35; omega)

theorem takes_un (op : Int) (h : isUn op = true) : (opRow op).2.2.1 = 1 := by
  have h1 : 24 ≤ op ∧ op ≤ 29 := by simpa [isUn] using h
  obtain ⟨k, rfl⟩ := Int.eq_ofNat_of_zero_le (show 0 ≤ op by omega)
  have : ∀ k : Fin 39, 24 ≤ k.1 ∧ k.1 ≤ 29 → (opRow (k.1 : Int)).2.2.1 = 1 := by decide
  exact this ⟨k, by omega⟩ (by show 24 ≤ k ∧ k ≤ 29; omega)

theorem takes_none (op : Int) (h : isBin op = false) (h' : isUn op = false) (h2 : op ≠ 35) (h3 : op ≠ 36) (h1 : ¬ (op = 3 ∨ op = 4 ∨ op = 5 ∨ op = 31 ∨ op = 33 ∨ op = 34 ∨ op = 37 ∨ op = 38)) : (opRow op).2.2.1 = 0 := by
  simp only [isBin, isUn, decide_eq_false_iff_not] at h h'
  refine opRow_of op (P := fun r => r.2.2.1 = 0) (fun _ => rfl) (fun k hk he => ?_)
  subst he
  have : ∀ k : Fin 39, ¬ (10 ≤ k.1 ∧ k.1 ≤ 29) → k.1 ≠ 35 → k.1 ≠ 36 → ¬ (k.1 = 3 ∨ k.1 = 4 ∨ k.1 = 5 ∨ k.1 = 31 ∨ k.1 = 33 ∨ k.1 = 34 ∨ k.1 = 37 ∨ k.1 = 38) → (opN k.1).2.2.1 = 0 := by decide
  exact this ⟨k, hk⟩ (by show ¬ (10 ≤ k ∧ k ≤ 29); omega) (by show k ≠ 35; omega) (by show k ≠ 36; omega) (by show ¬ (k = 3 ∨ k = 4 ∨ k = 5 ∨ k = 31 ∨ k = 33 ∨ k = 34 ∨ k = 37 ∨ k = 38); omega)

set_option maxHeartbeats 1600000 in
theorem specTakes {B : Nat} (v : Value) (p : List FnM) (op a : Int) (w : World) (hr : FnRow B w v p) :
    Calls Tryz.prog 109 #[.agg #[v], .agg #[.int .i64 op, .int .i64 a]] w fun e w' => e = .returned (.int .i64 (takesM p op a)) ∧ Below w.heap.size w w' := by
  have Hr : Hid (FnRow B w v p) := hr
  have hlen := hr.len
  obtain ⟨A, cap, rfl⟩ := hr.form
  clear hr
  have Hb : Hid (∀ o o' : Obj, Below w.heap.size w ((w.alloc o).alloc o')) := fun o o' => ((Below.refl _ _).alloc (Nat.le_refl _) _).alloc (by simp) _
  go_enter Tryz.func109, Tryz.ntmps109
  go_wp2_with fail
  refine (specBin op _).mono ?_
  rintro e w1 ⟨rfl, h⟩
  subst w1
  by_cases hB : isBin op = true ∨ op = 35
  · have HT : Hid (takesM p op a = 2) := show takesM p op a = 2 by
      rw [← takes_two op hB]
      have : op ≠ 32 := by rintro rfl; revert hB; decide
      simp only [takesM, if_neg this]
    rcases hB with hB | rfl
    · rw [hB]
      go_wp2_with fail
      go_ret
      exact ⟨by rw [HT.out]; rfl, Hb.out _ _⟩
    · rw [show isBin 35 = false from rfl]
      go_wp2_with fail
      go_ret
      exact ⟨by rw [HT.out]; rfl, Hb.out _ _⟩
  · obtain ⟨hB1, n35⟩ := not_or.1 hB
    have hB' : isBin op = false := by simpa using hB1
    have e35 : (op == 35) = false := by simpa using n35
    rw [hB']
    by_cases h36 : op = 36
    · subst h36
      clear e35 hB n35 hB1
      go_wp2_with fail
      go_ret
      exact ⟨rfl, Hb.out _ _⟩
    · have e36 : (op == 36) = false := by simpa using h36
      by_cases h32 : op = 32
      · subst h32
        clear e35 e36 hB n35 hB1 h36
        by_cases hin : 0 ≤ a ∧ a < p.length
        · obtain ⟨k, rfl⟩ := Int.eq_ofNat_of_zero_le hin.1
          have hk : k < p.length := by omega
          have HT : Hid (takesM p 32 k = p[k].args) := show takesM p 32 k = p[k].args by simp [takesM, hk, fnAt, List.getD]
          obtain ⟨b, off, x, rfl, hlt, e0, _, _, _⟩ := Hr.out.at k hk
          go_wp2_with fail
          go_ret
          exact ⟨by rw [HT.out]; rfl, Hb.out _ _⟩
        · have HT : Hid (takesM p 32 a = 0) := show takesM p 32 a = 0 by simp only [takesM, if_true, if_neg hin]
          by_cases h0 : a < 0
          · go_wp2_with fail
            go_ret
            exact ⟨by rw [HT.out]; rfl, Hb.out _ _⟩
          · have h0' : decide (a < 0) = false := by simpa using h0
            have h1 : (p.length : Int) ≤ a := by omega
            clear hin
            go_wp2_with fail
            go_ret
            exact ⟨by rw [HT.out]; rfl, Hb.out _ _⟩
      · have e32 : (op == 32) = false := by simpa using h32
        have hT : takesM p op a = (opRow op).2.2.1 := by simp only [takesM, if_neg h32]
        have HT : Hid (takesM p op a = (opRow op).2.2.1) := hT
        clear hT
        go_wp2_with fail
        refine (specUn op _).mono ?_
        rintro e w1 ⟨rfl, h⟩
        subst w1
        by_cases hU : isUn op = true
        · have Hp : Hid ((opRow op).2.2.1 = 1) := takes_un op hU
          rw [hU]
          go_wp2_with fail
          go_ret
          exact ⟨by rw [HT.out, Hp.out]; rfl, Hb.out _ _⟩
        · have hU' : isUn op = false := by simpa using hU
          rw [hU']
          by_cases h1 : op = 3 ∨ op = 4 ∨ op = 5 ∨ op = 31 ∨ op = 33 ∨ op = 34 ∨ op = 37 ∨ op = 38
          · clear hB hU hB' hU' e35 e36 e32 h36 h32 n35 hB1
            rcases h1 with rfl | rfl | rfl | rfl | rfl | rfl | rfl | rfl
            all_goals
              go_wp2_with fail
              go_ret
              exact ⟨by rw [HT.out]; rfl, Hb.out _ _⟩
          · have Hp : Hid ((opRow op).2.2.1 = 0) := takes_none op hB' hU' n35 h36 h1
            simp only [not_or] at h1
            obtain ⟨n1, n2, n3, n4, n5, n6, n7, n8⟩ := h1
            have e1 : (op == 3) = false := by simpa using n1
            have e2 : (op == 4) = false := by simpa using n2
            have e3 : (op == 5) = false := by simpa using n3
            have e4 : (op == 31) = false := by simpa using n4
            have e5 : (op == 33) = false := by simpa using n5
            have e6 : (op == 34) = false := by simpa using n6
            have e7 : (op == 37) = false := by simpa using n7
            have e8 : (op == 38) = false := by simpa using n8
            go_wp2_with fail
            go_ret
            exact ⟨by rw [HT.out, Hp.out]; rfl, Hb.out _ _⟩
end Go.Proofs.YtnknnncehcofnaaGreatDoor

namespace Go.Proofs.YtnknnncehcofnaaGreatDoor
open Go.RowKit

theorem run_insert_at {P : Program} (mt kt et : TypeId) (hm : P.underlying mt = some (.map kt et)) (hk : P.underlying kt = some (.int .i64)) (w : World) (r : Nat) (es : Array MapEntry) (clock : Nat) (k : Int) (v : Value)
    (hb : w.heap[r]? = some (.map es clock)) (h : Instr.findNow (.int .i64) (.int .i64 k) es.toList 0 = some none) :
    (Instr.mapUpdate mt (.map (some r)) (.int .i64 k) v).run P w = .ok () { w with heap := w.heap.setIfInBounds r (.map (es.push { key := .int .i64 k, val := v, born := clock }) (clock + 1)) } := by
  have hc : (Instr.checkKey false 10000 kt (.int .i64 k)).run P w = .ok () w := MapKept.run_checkKey (k := .int .i64 k) hk (by simp [MapKept.IsKey]) false 9999
  simp [Instr.mapUpdate, run_underlying hm, MapKept.run_getObj_map hb, hc, MapKept.run_findKey hk h, MapKept.run_setObj_map _ hb, Result.andThen]

theorem push_set (w : World) (o o' : Obj) : ({ (w.alloc o) with heap := (w.alloc o).heap.setIfInBounds w.heap.size o' } : World) = w.alloc o' := by
  show ({ w with heap := (w.heap.push o).setIfInBounds w.heap.size o' } : World) = { w with heap := w.heap.push o' }
  congr 1
  apply Array.ext_getElem?
  intro i
  rw [Array.getElem?_setIfInBounds, Array.getElem?_push, Array.getElem?_push]
  by_cases hi : w.heap.size = i
  · subst hi; simp
  · rw [if_neg hi, if_neg (fun h => hi h.symm), if_neg (fun h => hi h.symm)]

/-- a new key goes behind the others -/
theorem run_insert_new {P : Program} (mt kt et : TypeId) (hm : P.underlying mt = some (.map kt et)) (hk : P.underlying kt = some (.int .i64)) (w : World) (es : Array MapEntry) (clock : Nat) (k : Int) (v : Value)
    (h : Instr.findNow (.int .i64) (.int .i64 k) es.toList 0 = some none) :
    (Instr.mapUpdate mt (.map (some w.heap.size)) (.int .i64 k) v).run P (w.alloc (.map es clock)) = .ok () (w.alloc (.map (es.push { key := .int .i64 k, val := v, born := clock }) (clock + 1))) :=
  (run_insert_at mt kt et hm hk _ w.heap.size es clock k v (MapKept.heap_alloc w _).1 h).trans (congrArg (Result.ok ()) (push_set w _ _))

theorem run_look {P : Program} (mt kt et : TypeId) (hm : P.underlying mt = some (.map kt et)) (hk : P.underlying kt = some (.int .i64)) (w : World) (b : Nat) (es : Array MapEntry) (clock : Nat) (k : Int) (i : Nat) (v : Value)
    (hb : w.heap[b]? = some (.map es clock)) (h : Instr.findNow (.int .i64) (.int .i64 k) es.toList 0 = some (some (i, v))) :
    (Instr.lookup mt (.map (some b)) (.int .i64 k) true).run P w = .ok (.tuple #[v, .bool true]) w := by
  have hc : (Instr.checkKey es.isEmpty 10000 kt (.int .i64 k)).run P w = .ok () w := MapKept.run_checkKey (k := .int .i64 k) hk (by simp [MapKept.IsKey]) _ 9999
  simp [Instr.lookup, run_underlying hm, MapKept.run_getObj_map hb, hc, MapKept.run_findKey hk h, Result.andThen]

theorem run_look_none {P : Program} (mt kt et : TypeId) (hm : P.underlying mt = some (.map kt et)) (hk : P.underlying kt = some (.int .i64)) (w : World) (b : Nat) (es : Array MapEntry) (clock : Nat) (k : Int) (z : Value)
    (hz : (zeroValue et).run P w = .ok z w)
    (hb : w.heap[b]? = some (.map es clock)) (h : Instr.findNow (.int .i64) (.int .i64 k) es.toList 0 = some none) :
    (Instr.lookup mt (.map (some b)) (.int .i64 k) true).run P w = .ok (.tuple #[z, .bool false]) w := by
  have hc : (Instr.checkKey es.isEmpty 10000 kt (.int .i64 k)).run P w = .ok () w := MapKept.run_checkKey (k := .int .i64 k) hk (by simp [MapKept.IsKey]) _ 9999
  simp [Instr.lookup, run_underlying hm, MapKept.run_getObj_map hb, hc, MapKept.run_findKey hk h, hz, Result.andThen]

/-- the keys of a list of entries, all of int64 -/
def intKeys (l : List MapEntry) : Prop := ∀ e ∈ l, ∃ n : Int, e.key = .int .i64 n

theorem find_none (k : Int) : ∀ (l : List MapEntry) (i : Nat), intKeys l → (∀ e ∈ l, e.key ≠ .int .i64 k) → Instr.findNow (.int .i64) (.int .i64 k) l i = some none
  | [], _, _, _ => rfl
  | e :: l, i, hk, hn => by
    obtain ⟨n, he⟩ := hk e (by simp)
    have hne := hn e (by simp)
    rw [he] at hne
    have : (k == n) = false := by
      rw [beq_eq_false_iff_ne]; intro h; exact hne (by rw [h])
    simp only [Instr.findNow, he, Instr.sameNow, if_pos, this]
    exact find_none k l (i + 1) (fun e' h' => hk e' (by simp [h'])) (fun e' h' => hn e' (by simp [h']))

/-- the same at whatever block, the world told by 'setBlock' -/
theorem run_insert_block {P : Program} (mt kt et : TypeId) (hm : P.underlying mt = some (.map kt et)) (hk : P.underlying kt = some (.int .i64)) (w : World) (r : Nat) (es : Array MapEntry) (clock : Nat) (k : Int) (v : Value)
    (hb : w.heap[r]? = some (.map es clock)) (h : Instr.findNow (.int .i64) (.int .i64 k) es.toList 0 = some none) :
    (Instr.mapUpdate mt (.map (some r)) (.int .i64 k) v).run P w = .ok () (ChangeMaps.setBlock w r (.map (es.push { key := .int .i64 k, val := v, born := clock }) (clock + 1))) :=
  run_insert_at mt kt et hm hk w r es clock k v hb h

theorem below_setBlock {B r : Nat} {a w : World} (h : Below B a w) (hr : B ≤ r) (o : Obj) : Below B a (ChangeMaps.setBlock w r o) := by
  refine ⟨h.os, h.tape, h.output, by simpa [ChangeMaps.setBlock] using h.size, fun k hk => ?_⟩
  have : (ChangeMaps.setBlock w r o).heap[k]? = w.heap[k]? := by
    show (w.heap.setIfInBounds r o)[k]? = _
    rw [Array.getElem?_setIfInBounds, if_neg (by omega)]
  rw [this]
  exact h.block k hk

theorem size_setBlock (w : World) (r : Nat) (o : Obj) : (ChangeMaps.setBlock w r o).heap.size = w.heap.size := by simp [ChangeMaps.setBlock]
end Go.Proofs.YtnknnncehcofnaaGreatDoor

namespace Go.Proofs.YtnknnncehcofnaaGreatDoor
open Go.RowKit
theorem i64_wrap64 (n : Int) : IntKind.i64.wrap n = wrap64 n := by
  simp [IntKind.wrap, IntKind.bits, IntKind.signed]
  unfold wrap64
  omega

theorem bv_toNat (b : Int) : ((BitVec.ofInt 64 b).toNat : Int) = b % 18446744073709551616 := by
  rw [BitVec.toNat_ofInt]
  show (((b % 18446744073709551616).toNat : Nat) : Int) = _
  omega

theorem and63 (b : Int) : bits .and .i64 b 63 = b % 64 := by
  show IntKind.i64.wrap ((BitVec.ofInt 64 b &&& BitVec.ofInt 64 63).toNat : Int) = _
  have h63 : (BitVec.ofInt 64 63).toNat = 63 := by decide
  rw [BitVec.toNat_and, h63, nat_mask6, i64_wrap64]
  have := bv_toNat b
  unfold wrap64
  omega

theorem bv_back (x : BitVec 64) : BitVec.ofInt 64 (wrap64 (x.toNat : Int)) = x := by
  apply BitVec.eq_of_toNat_eq
  have h := bv_toNat (wrap64 (x.toNat : Int))
  have hx := x.isLt
  unfold wrap64 at h
  unfold wrap64
  omega

theorem bv_int (a : Int) (h0 : -9223372036854775808 ≤ a) (h1 : a ≤ 9223372036854775807) : wrap64 ((BitVec.ofInt 64 a).toNat : Int) = a := by
  rw [bv_toNat]; unfold wrap64; omega

theorem xor_twice (a b : Int) (h0 : -9223372036854775808 ≤ a) (h1 : a ≤ 9223372036854775807) : bits .xor .i64 (bits .xor .i64 a b) b = a := by
  show IntKind.i64.wrap ((BitVec.ofInt 64 (IntKind.i64.wrap ((BitVec.ofInt 64 a ^^^ BitVec.ofInt 64 b).toNat : Int)) ^^^ BitVec.ofInt 64 b).toNat : Int) = a
  rw [i64_wrap64, i64_wrap64, bv_back, BitVec.xor_assoc, BitVec.xor_self, BitVec.xor_zero, bv_int a h0 h1]
end Go.Proofs.YtnknnncehcofnaaGreatDoor

namespace Go.Proofs.YtnknnncehcofnaaGreatDoor
open Go.RowKit

/-- the number that both answer -/
def binN (op a b : Int) : Int :=
  if op = 10 then (wrap64 (a + b)) else
  if op = 11 then (wrap64 (a - b)) else
  if op = 12 then (wrap64 (a * b)) else
  if op = 13 then ((if b = 0 then 0 else wrap64 (a.tdiv b))) else
  if op = 14 then ((if b = 0 then 0 else a.tmod b)) else
  if op = 15 then (bits .and .i64 a b) else
  if op = 16 then (bits .or .i64 a b) else
  if op = 17 then (bits .xor .i64 a b) else
  if op = 18 then (wrap64 (a * 2 ^ (b % 64).toNat)) else
  if op = 19 then (a / 2 ^ (b % 64).toNat) else
  if op = 20 then (wrap64 (IntKind.u64.wrap a / 2 ^ (b % 64).toNat)) else
  if op = 21 then (if a < b then 1 else 0) else
  if op = 22 then (if a ≤ b then 1 else 0) else
  if op = 23 then (if a = b then 1 else 0) else
  0
/-- the trap -/
def binT (op b : Int) : Int := if b = 0 ∧ (op = 13 ∨ op = 14) then 11 else 0

theorem binN_10 (a b : Int) : binN 10 a b = wrap64 (a + b) := rfl
theorem binN_11 (a b : Int) : binN 11 a b = wrap64 (a - b) := rfl
theorem binN_12 (a b : Int) : binN 12 a b = wrap64 (a * b) := rfl
theorem binN_13 {a b : Int} (h : ¬ b = 0) : binN 13 a b = wrap64 (a.tdiv b) := by simp [binN, h]
theorem binN_13z (a : Int) : binN 13 a 0 = 0 := by simp [binN]
theorem binN_14 {a b : Int} (h : ¬ b = 0) : binN 14 a b = a.tmod b := by simp [binN, h]
theorem binN_14z (a : Int) : binN 14 a 0 = 0 := by simp [binN]
theorem binN_15 (a b : Int) : binN 15 a b = bits .and .i64 a b := rfl
theorem binN_16 (a b : Int) : binN 16 a b = bits .or .i64 a b := rfl
theorem binN_17 (a b : Int) : binN 17 a b = bits .xor .i64 a b := rfl
theorem binN_18 (a b : Int) : binN 18 a b = wrap64 (a * 2 ^ (b % 64).toNat) := rfl
theorem binN_19 (a b : Int) : binN 19 a b = a / 2 ^ (b % 64).toNat := rfl
theorem binN_20 (a b : Int) : binN 20 a b = wrap64 (IntKind.u64.wrap a / 2 ^ (b % 64).toNat) := rfl
theorem binN_21 (a b : Int) : binN 21 a b = if a < b then 1 else 0 := rfl
theorem binN_22 (a b : Int) : binN 22 a b = if a ≤ b then 1 else 0 := rfl
theorem binN_23 (a b : Int) : binN 23 a b = if a = b then 1 else 0 := rfl
theorem binN_out {op : Int} (a b : Int) (h : op < 10 ∨ 23 < op) : binN op a b = 0 := by
  unfold binN
  rw [if_neg (show ¬ op = 10 by omega)]
  rw [if_neg (show ¬ op = 11 by omega)]
  rw [if_neg (show ¬ op = 12 by omega)]
  rw [if_neg (show ¬ op = 13 by omega)]
  rw [if_neg (show ¬ op = 14 by omega)]
  rw [if_neg (show ¬ op = 15 by omega)]
  rw [if_neg (show ¬ op = 16 by omega)]
  rw [if_neg (show ¬ op = 17 by omega)]
  rw [if_neg (show ¬ op = 18 by omega)]
  rw [if_neg (show ¬ op = 19 by omega)]
  rw [if_neg (show ¬ op = 20 by omega)]
  rw [if_neg (show ¬ op = 21 by omega)]
  rw [if_neg (show ¬ op = 22 by omega)]
  rw [if_neg (show ¬ op = 23 by omega)]

theorem and63_bd (b : Int) : 0 ≤ bits .and .i64 b 63 ∧ bits .and .i64 b 63 ≤ 63 := by
  rw [and63]; omega

theorem bin10 (a b : Int) (w : World) :
    Calls Tryz.prog 237 #[.int .i64 a, .int .i64 b] w fun e w' => e = .returned (.int .i64 (binN 10 a b)) ∧ w' = w := by
  rw [binN_10]
  go_enter Tryz.func237, Tryz.ntmps237
  go_wp2
  go_ret
  exact ⟨rfl, rfl⟩

theorem bin11 (a b : Int) (w : World) :
    Calls Tryz.prog 238 #[.int .i64 a, .int .i64 b] w fun e w' => e = .returned (.int .i64 (binN 11 a b)) ∧ w' = w := by
  rw [binN_11]
  go_enter Tryz.func238, Tryz.ntmps238
  go_wp2
  go_ret
  exact ⟨rfl, rfl⟩

theorem bin12 (a b : Int) (w : World) :
    Calls Tryz.prog 239 #[.int .i64 a, .int .i64 b] w fun e w' => e = .returned (.int .i64 (binN 12 a b)) ∧ w' = w := by
  rw [binN_12]
  go_enter Tryz.func239, Tryz.ntmps239
  go_wp2
  go_ret
  exact ⟨rfl, rfl⟩

theorem bin13 (a b : Int) (hb0 : ¬ b = 0) (w : World) :
    Calls Tryz.prog 240 #[.int .i64 a, .int .i64 b] w fun e w' => e = .returned (.int .i64 (binN 13 a b)) ∧ w' = w := by
  rw [binN_13 hb0]
  go_enter Tryz.func240, Tryz.ntmps240
  go_wp2
  go_ret
  exact ⟨rfl, rfl⟩

theorem bin14 (a b : Int) (hb0 : ¬ b = 0) (w : World) :
    Calls Tryz.prog 241 #[.int .i64 a, .int .i64 b] w fun e w' => e = .returned (.int .i64 (binN 14 a b)) ∧ w' = w := by
  rw [binN_14 hb0]
  go_enter Tryz.func241, Tryz.ntmps241
  go_wp2
  go_ret
  exact ⟨rfl, rfl⟩

theorem bin15 (a b : Int) (w : World) :
    Calls Tryz.prog 242 #[.int .i64 a, .int .i64 b] w fun e w' => e = .returned (.int .i64 (binN 15 a b)) ∧ w' = w := by
  rw [binN_15]
  go_enter Tryz.func242, Tryz.ntmps242
  go_wp2
  go_ret
  exact ⟨rfl, rfl⟩

theorem bin16 (a b : Int) (w : World) :
    Calls Tryz.prog 243 #[.int .i64 a, .int .i64 b] w fun e w' => e = .returned (.int .i64 (binN 16 a b)) ∧ w' = w := by
  rw [binN_16]
  go_enter Tryz.func243, Tryz.ntmps243
  go_wp2
  go_ret
  exact ⟨rfl, rfl⟩

theorem bin17 (a b : Int) (w : World) :
    Calls Tryz.prog 244 #[.int .i64 a, .int .i64 b] w fun e w' => e = .returned (.int .i64 (binN 17 a b)) ∧ w' = w := by
  rw [binN_17]
  go_enter Tryz.func244, Tryz.ntmps244
  go_wp2
  go_ret
  exact ⟨rfl, rfl⟩

theorem bin18 (a b : Int) (w : World) :
    Calls Tryz.prog 245 #[.int .i64 a, .int .i64 b] w fun e w' => e = .returned (.int .i64 (binN 18 a b)) ∧ w' = w := by
  rw [binN_18, ← and63]
  obtain ⟨h0, h1⟩ := and63_bd b
  go_enter Tryz.func245, Tryz.ntmps245
  go_wp2
  go_ret
  exact ⟨rfl, rfl⟩

theorem bin19 (a b : Int) (w : World) :
    Calls Tryz.prog 246 #[.int .i64 a, .int .i64 b] w fun e w' => e = .returned (.int .i64 (binN 19 a b)) ∧ w' = w := by
  rw [binN_19, ← and63]
  obtain ⟨h0, h1⟩ := and63_bd b
  go_enter Tryz.func246, Tryz.ntmps246
  go_wp2
  go_ret
  exact ⟨rfl, rfl⟩

theorem bin20 (a b : Int) (w : World) :
    Calls Tryz.prog 247 #[.int .i64 a, .int .i64 b] w fun e w' => e = .returned (.int .i64 (binN 20 a b)) ∧ w' = w := by
  rw [binN_20, ← and63]
  obtain ⟨h0, h1⟩ := and63_bd b
  go_enter Tryz.func247, Tryz.ntmps247
  go_wp2
  go_ret
  exact ⟨rfl, rfl⟩

theorem bin21 (a b : Int) (w : World) :
    Calls Tryz.prog 248 #[.int .i64 a, .int .i64 b] w fun e w' => e = .returned (.int .i64 (binN 21 a b)) ∧ w' = w := by
  rw [binN_21]
  by_cases h : a < b
  · rw [if_pos h]
    go_enter Tryz.func248, Tryz.ntmps248
    go_wp2
    go_ret
    exact ⟨rfl, rfl⟩
  · rw [if_neg h]
    go_enter Tryz.func248, Tryz.ntmps248
    go_wp2
    go_ret
    exact ⟨rfl, rfl⟩

theorem bin22 (a b : Int) (w : World) :
    Calls Tryz.prog 250 #[.int .i64 a, .int .i64 b] w fun e w' => e = .returned (.int .i64 (binN 22 a b)) ∧ w' = w := by
  rw [binN_22]
  by_cases h : a ≤ b
  · rw [if_pos h]
    go_enter Tryz.func250, Tryz.ntmps250
    go_wp2
    go_ret
    exact ⟨rfl, rfl⟩
  · rw [if_neg h]
    go_enter Tryz.func250, Tryz.ntmps250
    go_wp2
    go_ret
    exact ⟨rfl, rfl⟩

theorem bin23 (a b : Int) (w : World) :
    Calls Tryz.prog 251 #[.int .i64 a, .int .i64 b] w fun e w' => e = .returned (.int .i64 (binN 23 a b)) ∧ w' = w := by
  rw [binN_23]
  by_cases h : a = b
  · rw [if_pos h]
    go_enter Tryz.func251, Tryz.ntmps251
    go_wp2
    go_ret
    exact ⟨rfl, rfl⟩
  · rw [if_neg h]
    go_enter Tryz.func251, Tryz.ntmps251
    go_wp2
    go_ret
    exact ⟨rfl, rfl⟩

/-- the table as it is laid -/
def binEs : Array MapEntry := #[⟨.int .i64 10, .agg #[.func (Fn.func 237) #[] #[], .int .i64 0], 0⟩,
   ⟨.int .i64 11, .agg #[.func (Fn.func 238) #[] #[], .int .i64 0], 1⟩,
   ⟨.int .i64 12, .agg #[.func (Fn.func 239) #[] #[], .int .i64 0], 2⟩,
   ⟨.int .i64 13, .agg #[.func (Fn.func 240) #[] #[], .int .i64 11], 3⟩,
   ⟨.int .i64 14, .agg #[.func (Fn.func 241) #[] #[], .int .i64 11], 4⟩,
   ⟨.int .i64 15, .agg #[.func (Fn.func 242) #[] #[], .int .i64 0], 5⟩,
   ⟨.int .i64 16, .agg #[.func (Fn.func 243) #[] #[], .int .i64 0], 6⟩,
   ⟨.int .i64 17, .agg #[.func (Fn.func 244) #[] #[], .int .i64 0], 7⟩,
   ⟨.int .i64 18, .agg #[.func (Fn.func 245) #[] #[], .int .i64 0], 8⟩,
   ⟨.int .i64 19, .agg #[.func (Fn.func 246) #[] #[], .int .i64 0], 9⟩,
   ⟨.int .i64 20, .agg #[.func (Fn.func 247) #[] #[], .int .i64 0], 10⟩,
   ⟨.int .i64 21, .agg #[.func (Fn.func 248) #[] #[], .int .i64 0], 11⟩,
   ⟨.int .i64 22, .agg #[.func (Fn.func 250) #[] #[], .int .i64 0], 12⟩,
   ⟨.int .i64 23, .agg #[.func (Fn.func 251) #[] #[], .int .i64 0], 13⟩]

set_option maxHeartbeats 400000 in
theorem binOps (w : World) :
    Calls Tryz.prog 218 #[] w fun e w' => e = .returned (.map (some w.heap.size)) ∧ w' = w.alloc (.map binEs 14) := by
  have hmm := @run_makeMap Tryz.prog
  have up0 := fun (w : World) (v : Value) => run_insert_new (P := Tryz.prog) 260 2 258 Tryz.underlying260 Tryz.underlying2 w #[] 0 (10) v rfl
  have up1 := fun (w : World) (v0 v : Value) => run_insert_new (P := Tryz.prog) 260 2 258 Tryz.underlying260 Tryz.underlying2 w #[⟨.int .i64 (10), v0, 0⟩] 1 (11) v rfl
  have up2 := fun (w : World) (v0 v1 v : Value) => run_insert_new (P := Tryz.prog) 260 2 258 Tryz.underlying260 Tryz.underlying2 w #[⟨.int .i64 (10), v0, 0⟩, ⟨.int .i64 (11), v1, 1⟩] 2 (12) v rfl
  have up3 := fun (w : World) (v0 v1 v2 v : Value) => run_insert_new (P := Tryz.prog) 260 2 258 Tryz.underlying260 Tryz.underlying2 w #[⟨.int .i64 (10), v0, 0⟩, ⟨.int .i64 (11), v1, 1⟩, ⟨.int .i64 (12), v2, 2⟩] 3 (13) v rfl
  have up4 := fun (w : World) (v0 v1 v2 v3 v : Value) => run_insert_new (P := Tryz.prog) 260 2 258 Tryz.underlying260 Tryz.underlying2 w #[⟨.int .i64 (10), v0, 0⟩, ⟨.int .i64 (11), v1, 1⟩, ⟨.int .i64 (12), v2, 2⟩, ⟨.int .i64 (13), v3, 3⟩] 4 (14) v rfl
  have up5 := fun (w : World) (v0 v1 v2 v3 v4 v : Value) => run_insert_new (P := Tryz.prog) 260 2 258 Tryz.underlying260 Tryz.underlying2 w #[⟨.int .i64 (10), v0, 0⟩, ⟨.int .i64 (11), v1, 1⟩, ⟨.int .i64 (12), v2, 2⟩, ⟨.int .i64 (13), v3, 3⟩, ⟨.int .i64 (14), v4, 4⟩] 5 (15) v rfl
  have up6 := fun (w : World) (v0 v1 v2 v3 v4 v5 v : Value) => run_insert_new (P := Tryz.prog) 260 2 258 Tryz.underlying260 Tryz.underlying2 w #[⟨.int .i64 (10), v0, 0⟩, ⟨.int .i64 (11), v1, 1⟩, ⟨.int .i64 (12), v2, 2⟩, ⟨.int .i64 (13), v3, 3⟩, ⟨.int .i64 (14), v4, 4⟩, ⟨.int .i64 (15), v5, 5⟩] 6 (16) v rfl
  have up7 := fun (w : World) (v0 v1 v2 v3 v4 v5 v6 v : Value) => run_insert_new (P := Tryz.prog) 260 2 258 Tryz.underlying260 Tryz.underlying2 w #[⟨.int .i64 (10), v0, 0⟩, ⟨.int .i64 (11), v1, 1⟩, ⟨.int .i64 (12), v2, 2⟩, ⟨.int .i64 (13), v3, 3⟩, ⟨.int .i64 (14), v4, 4⟩, ⟨.int .i64 (15), v5, 5⟩, ⟨.int .i64 (16), v6, 6⟩] 7 (17) v rfl
  have up8 := fun (w : World) (v0 v1 v2 v3 v4 v5 v6 v7 v : Value) => run_insert_new (P := Tryz.prog) 260 2 258 Tryz.underlying260 Tryz.underlying2 w #[⟨.int .i64 (10), v0, 0⟩, ⟨.int .i64 (11), v1, 1⟩, ⟨.int .i64 (12), v2, 2⟩, ⟨.int .i64 (13), v3, 3⟩, ⟨.int .i64 (14), v4, 4⟩, ⟨.int .i64 (15), v5, 5⟩, ⟨.int .i64 (16), v6, 6⟩, ⟨.int .i64 (17), v7, 7⟩] 8 (18) v rfl
  have up9 := fun (w : World) (v0 v1 v2 v3 v4 v5 v6 v7 v8 v : Value) => run_insert_new (P := Tryz.prog) 260 2 258 Tryz.underlying260 Tryz.underlying2 w #[⟨.int .i64 (10), v0, 0⟩, ⟨.int .i64 (11), v1, 1⟩, ⟨.int .i64 (12), v2, 2⟩, ⟨.int .i64 (13), v3, 3⟩, ⟨.int .i64 (14), v4, 4⟩, ⟨.int .i64 (15), v5, 5⟩, ⟨.int .i64 (16), v6, 6⟩, ⟨.int .i64 (17), v7, 7⟩, ⟨.int .i64 (18), v8, 8⟩] 9 (19) v rfl
  have up10 := fun (w : World) (v0 v1 v2 v3 v4 v5 v6 v7 v8 v9 v : Value) => run_insert_new (P := Tryz.prog) 260 2 258 Tryz.underlying260 Tryz.underlying2 w #[⟨.int .i64 (10), v0, 0⟩, ⟨.int .i64 (11), v1, 1⟩, ⟨.int .i64 (12), v2, 2⟩, ⟨.int .i64 (13), v3, 3⟩, ⟨.int .i64 (14), v4, 4⟩, ⟨.int .i64 (15), v5, 5⟩, ⟨.int .i64 (16), v6, 6⟩, ⟨.int .i64 (17), v7, 7⟩, ⟨.int .i64 (18), v8, 8⟩, ⟨.int .i64 (19), v9, 9⟩] 10 (20) v rfl
  have up11 := fun (w : World) (v0 v1 v2 v3 v4 v5 v6 v7 v8 v9 v10 v : Value) => run_insert_new (P := Tryz.prog) 260 2 258 Tryz.underlying260 Tryz.underlying2 w #[⟨.int .i64 (10), v0, 0⟩, ⟨.int .i64 (11), v1, 1⟩, ⟨.int .i64 (12), v2, 2⟩, ⟨.int .i64 (13), v3, 3⟩, ⟨.int .i64 (14), v4, 4⟩, ⟨.int .i64 (15), v5, 5⟩, ⟨.int .i64 (16), v6, 6⟩, ⟨.int .i64 (17), v7, 7⟩, ⟨.int .i64 (18), v8, 8⟩, ⟨.int .i64 (19), v9, 9⟩, ⟨.int .i64 (20), v10, 10⟩] 11 (21) v rfl
  have up12 := fun (w : World) (v0 v1 v2 v3 v4 v5 v6 v7 v8 v9 v10 v11 v : Value) => run_insert_new (P := Tryz.prog) 260 2 258 Tryz.underlying260 Tryz.underlying2 w #[⟨.int .i64 (10), v0, 0⟩, ⟨.int .i64 (11), v1, 1⟩, ⟨.int .i64 (12), v2, 2⟩, ⟨.int .i64 (13), v3, 3⟩, ⟨.int .i64 (14), v4, 4⟩, ⟨.int .i64 (15), v5, 5⟩, ⟨.int .i64 (16), v6, 6⟩, ⟨.int .i64 (17), v7, 7⟩, ⟨.int .i64 (18), v8, 8⟩, ⟨.int .i64 (19), v9, 9⟩, ⟨.int .i64 (20), v10, 10⟩, ⟨.int .i64 (21), v11, 11⟩] 12 (22) v rfl
  have up13 := fun (w : World) (v0 v1 v2 v3 v4 v5 v6 v7 v8 v9 v10 v11 v12 v : Value) => run_insert_new (P := Tryz.prog) 260 2 258 Tryz.underlying260 Tryz.underlying2 w #[⟨.int .i64 (10), v0, 0⟩, ⟨.int .i64 (11), v1, 1⟩, ⟨.int .i64 (12), v2, 2⟩, ⟨.int .i64 (13), v3, 3⟩, ⟨.int .i64 (14), v4, 4⟩, ⟨.int .i64 (15), v5, 5⟩, ⟨.int .i64 (16), v6, 6⟩, ⟨.int .i64 (17), v7, 7⟩, ⟨.int .i64 (18), v8, 8⟩, ⟨.int .i64 (19), v9, 9⟩, ⟨.int .i64 (20), v10, 10⟩, ⟨.int .i64 (21), v11, 11⟩, ⟨.int .i64 (22), v12, 12⟩] 13 (23) v rfl
  go_enter Tryz.func218, Tryz.ntmps218
  go_wp2
  go_ret
  exact ⟨rfl, rfl⟩
end Go.Proofs.YtnknnncehcofnaaGreatDoor
