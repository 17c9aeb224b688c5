/- impl.appendNums. -/
import Derived.Test.YtfaameimocjaiaaDoorFileP
import Derived.Test.YtfaameimocjaiaaDoorIRow
namespace Go.Proofs.YtfaameimocjaiaaDoor
open Go.RowKit

theorem strCells_mk (l : List UInt8) : Lib.strCells ⟨l.toArray⟩ = Lib.byteCells l := by simp [Lib.strCells, Lib.byteCells]
theorem byteCells_app (l m : List UInt8) : Lib.byteCells (l ++ m) = Lib.byteCells l ++ Lib.byteCells m := by simp [Lib.byteCells]

theorem KeepT.cell {B : Nat} {w w' : World} (h : KeepT B w w') {b : Nat} {C : Array Value} {t : TypeId} {fr : Nat × Nat} (hb : w.heap[b]? = some (Obj.cells C t fr)) (ht : t ≠ 5) (j : Nat) : w'.cell? ⟨b, j, none⟩ = w.cell? ⟨b, j, none⟩ :=
  World.cell?_of_block (w := w) (by rw [h.typed b C t fr ht hb]; exact hb.symm)

theorem Own8.keep {B : Nat} {w w' : World} {v : Value} {l : List UInt8} (h : Own8 B w v l) (hb : Below w.heap.size w w') : Own8 B w' v l :=
  World.ownsRow.kept (row := none) h ⟨hb.os, hb.tape, hb.output, hb.size, fun k hk _ => hb.block k hk⟩ (by cases v.ownBlock <;> simp)

theorem Own8.form {B : Nat} {w : World} {v : Value} {l : List UInt8} (h : Own8 B w v l) : ∃ A cap, v = .slice A l.length cap := by
  rcases h.2 with ⟨rfl, h0⟩ | ⟨g, cap, _, rfl, _⟩
  · exact ⟨none, 0, by rw [h0]⟩
  · exact ⟨_, _, rfl⟩

set_option maxRecDepth 100000 in
set_option maxHeartbeats 1600000 in
theorem implAppend {B : Nat} (y : Value) (l : List UInt8) (bn capn : Nat) (C : Array Value) (zs : List Int) (w : World) (ho : Own8 B w y l) (hC : w.heap[bn]? = some (Obj.cells C 2 (0, 0))) (hz : ∀ i (h : i < zs.length), w.cell? ⟨bn, i, none⟩ = some (.int .i64 zs[i]))
    (hI : ∀ z ∈ zs, I64 z) (hlen : l.length ≤ 100000) (hzl : zs.length ≤ 3) (hB : B ≤ w.heap.size) :
    Calls Tryd.prog 30 #[y, .slice (some ⟨bn, 0, none⟩) zs.length capn] w fun e w' => ∃ y', e = .returned y' ∧ Own8 B w' y' (l ++ nums zs) ∧ KeepT B w w' := by
  have Ho : Hid (Own8 B w y l) := ho
  have HC : Hid (w.heap[bn]? = some (Obj.cells C 2 (0, 0))) := hC
  have Hz : Hid (∀ i (h : i < zs.length), w.cell? ⟨bn, i, none⟩ = some (.int .i64 zs[i])) := hz
  have HI : Hid (∀ z ∈ zs, I64 z) := hI
  obtain ⟨i0, hi, hz0, hz1, hz2⟩ := info_parts Tryd.infoU8
  obtain ⟨A, cap, rfl⟩ := ho.form
  clear ho hC hz hI
  go_enter Tryd.func30, Tryd.ntmps30
  go_wp2_with fail
  go_loopg [0, 9] (zs.length) (fun g y i wr => ∃ q : Nat, q ≤ zs.length ∧ i = .int .i64 q ∧ zs.length ≤ q + g ∧ (∃ m, m = l ++ nums (zs.take q) ∧ Own8 B wr y m) ∧ KeepT B w wr)
  case atStart => exact ⟨0, Nat.zero_le _, rfl, by omega, ⟨l, by simp [nums], Ho.out⟩, KeepT.refl _ _⟩
  case round =>
    obtain ⟨q, hq, rfl, hqg, ⟨m, hm, ho⟩, hk⟩ := hrel
    have Hm : Hid (m = l ++ nums (zs.take q)) := hm
    have O1 : Hid (Own8 B wr u0 m) := ho
    have K1 : Hid (KeepT B w wr) := hk
    obtain ⟨A1, cap1, rfl⟩ := ho.form
    have hnl := nums_len (zs.take q) (fun z hz => HI.out z (List.mem_of_mem_take hz))
    have htl : m.length ≤ 100030 := by
      have : (zs.take q).length ≤ 3 := by simp; omega
      rw [hm, List.length_append]; omega
    clear ho hk hnl hm
    by_cases hql : q < zs.length
    · obtain ⟨z, hzq⟩ : ∃ z, z = zs[q] := ⟨_, rfl⟩
      have c0 : wr.cell? ⟨bn, q, none⟩ = some (.int .i64 z) := by rw [K1.out.cell HC.out (by decide), Hz.out q hql, hzq]
      have hIz : I64 z := by rw [hzq]; exact HI.out _ (List.getElem_mem hql)
      have Hzq : Hid (z = zs[q]) := hzq
      have hql' : (q : Int) < zs.length := by omega
      clear hzq
      go_wp2_with fail
      refine (implPut z _ hIz.1 hIz.2).mono ?_
      rintro e w2 ⟨rfl, hb2⟩
      have O2 : Hid (Own8 B w2 (.slice A1 m.length cap1) m) := O1.out.keep hb2
      have hBr : B ≤ wr.heap.size := Nat.le_trans hB K1.out.below.size
      have K2 : Hid (KeepT B w w2) := K1.out.trans (KeepT.of_below hb2 hBr)
      have hB2 : B ≤ w2.heap.size := Nat.le_trans hBr hb2.size
      have hnz : (num z).length ≤ 10 := num_len hIz
      have hsz : (⟨(Lib.uvarint (Lib.zigzag z)).toArray⟩ : ByteArray).size = (num z).length := by simp [ByteArray.size, num]
      clear hb2 O1 K1 c0
      go_wp2_with (at_builtin; refine Lib.wpList_append_own_string _ rfl _ _ 55 9 rfl B 5 i0 Tryd.underlying55 Tryd.underlying9 hi hz0 hz1 hz2 _ _ _ rfl O2.out _ rfl ?c1 ?c2 ?c3 ?_)
      case c1 => rw [hsz]; unfold maxLen; omega
      case c2 => rw [hsz]; omega
      case c3 => exact hB2
      intro v' w3 hown hg hnil
      have O3 : Hid (Own8 B w3 v' (l ++ nums (zs.take (q + 1)))) := by
        show w3.ownsRow B 5 1 v' _ _
        rw [List.take_succ_eq_append_getElem hql, nums_snoc, ← Hzq.out, ← List.append_assoc, ← Hm.out, byteCells_app, List.length_append]
        rw [strCells_mk] at hown
        exact hown
      have K3 : Hid (KeepT B w w3) := K2.out.trans (KeepT.grown O2.out hg hB2)
      clear hown hg hnil
      go_wp2_with fail
      go_roundg (gk - 1)
      case measure => omega
      case rel => exact ⟨q + 1, by omega, by go_num, by omega, ⟨_, rfl, O3.out⟩, K3.out⟩
    · have hqe : q = zs.length := by omega
      subst hqe
      go_wp2_with fail
      go_ret
      have e : m = l ++ nums zs := by rw [Hm.out, List.take_length]
      exact ⟨_, rfl, e ▸ O1.out, K1.out⟩
end Go.Proofs.YtfaameimocjaiaaDoor
