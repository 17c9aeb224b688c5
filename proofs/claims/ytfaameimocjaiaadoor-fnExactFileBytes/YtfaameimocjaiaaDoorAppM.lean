/- impl.appendNums, of one number, at a slice of bytes that is full and whose block is marked. -/
import Derived.Test.YtfaameimocjaiaaDoorAppN
namespace Go.Proofs.YtfaameimocjaiaaDoor
open Go.RowKit

/-- 'append(b, s...)' where b is full: a new row of the call's own -/
theorem wpList_append_full {w : World} {ops : Array Oper} {rest : List Oper} {o : Oper} {a : Act} {Q : Exit → Act → World → Prop} (hgd : o.guard = none) (sl x : Operand)
    (ho : o.op = .call { callee := .builtin .append, args := #[sl, x], argTypes := #[55, 9] })
    (B g : Nat) (l : List UInt8) (hs : a.eval sl = .slice (some ⟨g, 0, none⟩) l.length l.length) (hc : ∀ j (h : j < l.length), w.cell? ⟨g, j, none⟩ = some (.int .u8 (l[j].toNat : Int)))
    (s : ByteArray) (hx : a.eval x = .string s) (hp : 0 < s.size) (hsz : l.length + s.size ≤ 1000000) (hB : B ≤ w.heap.size)
    (h : ∀ v' w', Own8 B w' v' (l ++ s.data.toList) → Below w.heap.size w w' → wpList Tryd.prog ops Q rest (a.put o.dst v') w') : wpList Tryd.prog ops Q (o :: rest) a w := by
  obtain ⟨i0, hi, hz0, hz1, hz2⟩ := info_parts Tryd.infoU8
  have hlen : (l ++ s.data.toList).length = l.length + s.size := by simp
  have holds : ∀ j u, (Lib.byteCells l)[j]? = some u → w.cell? ((⟨g, 0, none⟩ : Addr).add j) = some u := by
    intro j u hu
    have ha : (⟨g, 0, none⟩ : Addr).add j = ⟨g, j, none⟩ := by simp [Addr.add]; exact fun h => h.symm
    have hj : j < l.length := by
      have := (List.getElem?_eq_some_iff.1 hu).1
      simpa [Lib.byteCells] using this
    rw [ha, hc j hj, ← hu]
    simp [Lib.byteCells, hj]
  have hr := Lib.run_append_grow_string (P := Tryd.prog) w 55 9 o.type 5 i0 (.int .u8 0) Tryd.underlying55 Tryd.underlying9 hi hz0 ⟨g, 0, none⟩ l.length l.length (Lib.byteCells l) (by rw [hz1]; simp [Lib.byteCells]) holds s (by omega) (by omega) (by rw [hz2]; exact growslice_fits (by omega) (by omega))
  have hge := grownCap_ge w (l.length + s.size) l.length 5
  have hcm := grownCap_le_maxLen w (l.length + s.size) l.length 5 (by unfold maxLen; omega)
  generalize grownCap w (l.length + s.size) l.length 5 = gc at hr hge hcm
  refine wpList_plain hgd fun K hK => ?_
  unfold Oper.wp execOp
  simp only [ho, resolve, invoke, builtin, Sem.run_bind, Sem.run_pure, Result.andThen_ok, List.map_toArray, List.map_cons, List.map_nil, hs, hx, hr]
  refine hK _ _ (h _ _ ?_ ((Below.refl _ _).drew.alloc (Nat.le_refl _) _))
  have e : (Lib.byteCells l).toArray ++ (Lib.strCells s).toArray = (Lib.byteCells (l ++ s.data.toList)).toArray := by
    simp [Lib.byteCells, Lib.strCells]
  have hz : (Value.int IntKind.u8 0).cells.size = 1 := rfl
  have hsz' : (Lib.byteCells (l ++ s.data.toList)).length = l.length + s.size := by simp [Lib.byteCells]
  rw [e]
  refine ⟨by simp [Lib.byteCells], .inr ⟨w.heap.size, gc, (Lib.byteCells (l ++ s.data.toList)).toArray ++ Builtin.zeroCells (Value.int IntKind.u8 0).cells (gc - (l.length + s.size)), by rw [hlen], hB, heap_alloc_new w.drew _, by omega, hcm, ?_, ?_⟩⟩
  · rw [Array.size_append, size_zeroCells, hz]; simp [Lib.byteCells]; omega
  · simp only [Array.toList_append, hlen, Nat.mul_one]
    rw [List.take_append_of_le_length (by simp [Lib.byteCells])]
    rw [List.take_of_length_le (by simp [Lib.byteCells])]

set_option maxRecDepth 100000 in
set_option maxHeartbeats 1600000 in
theorem implAppend1 {B : Nat} (g : Nat) (l : List UInt8) (bn capn : Nat) (z : Int) (w : World) (hc : ∀ j (h : j < l.length), w.cell? ⟨g, j, none⟩ = some (.int .u8 (l[j].toNat : Int))) (hbn : w.cell? ⟨bn, 0, none⟩ = some (.int .i64 z)) (hlt : bn < w.heap.size)
    (hI : I64 z) (hlen : l.length ≤ 100000) (hB : B ≤ w.heap.size) :
    Calls Tryd.prog 30 #[.slice (some ⟨g, 0, none⟩) l.length l.length, .slice (some ⟨bn, 0, none⟩) 1 capn] w fun e w' => ∃ y', e = .returned y' ∧ Own8 B w' y' (l ++ num z) ∧ Below w.heap.size w w' := by
  have HC : Hid (∀ j (h : j < l.length), w.cell? ⟨g, j, none⟩ = some (.int .u8 (l[j].toNat : Int))) := hc
  have Hbn : Hid (w.cell? ⟨bn, 0, none⟩ = some (.int .i64 z)) := hbn
  clear hc hbn
  go_enter Tryd.func30, Tryd.ntmps30
  go_wp2_with fail
  go_loopg [0, 9] 1 (fun gg y i wr => (gg = 1 ∧ i = .int .i64 0 ∧ wr = w ∧ y = .slice (some ⟨g, 0, none⟩) l.length l.length) ∨ (i = .int .i64 1 ∧ Own8 B wr y (l ++ num z) ∧ Below w.heap.size w wr))
  case atStart => exact .inl ⟨rfl, rfl, rfl, rfl⟩
  case round =>
    rcases hrel with ⟨rfl, rfl, hw, rfl⟩ | ⟨rfl, ho, hb⟩
    · subst hw
      have c0 := Hbn.out
      go_wp2_with fail
      refine (implPut z _ hI.1 hI.2).mono ?_
      rintro e w2 ⟨rfl, hb2⟩
      have hnz : (num z).length ≤ 10 := num_len hI
      have hnp : 0 < (num z).length := Lib.uvarint_pos _
      have Hc2 : Hid (∀ j (h : j < l.length), w2.cell? ⟨g, j, none⟩ = some (.int .u8 (l[j].toNat : Int))) := fun j hj => by
        rw [hb2.cell (by exact World.block_lt_of_cell? _ _ (HC.out j hj))]; exact HC.out j hj
      have hsz : (⟨(Lib.uvarint (Lib.zigzag z)).toArray⟩ : ByteArray).size = (num z).length := by simp [ByteArray.size, num]
      have Hb2 : Hid (Below wr.heap.size wr w2) := hb2
      have hB2 : B ≤ w2.heap.size := Nat.le_trans hB hb2.size
      clear hb2 c0
      go_wp2_with (at_builtin; refine wpList_append_full rfl _ _ rfl B g l rfl Hc2.out _ rfl ?c1 ?c2 hB2 ?_)
      case c1 => rw [hsz]; exact hnp
      case c2 => rw [hsz]; omega
      intro v' w3 hown hg
      have O3 : Hid (Own8 B w3 v' (l ++ num z)) := hown
      have K3 : Hid (Below wr.heap.size wr w3) := Hb2.out.trans (hg.mono Hb2.out.size)
      obtain ⟨A3, c3, rfl⟩ := hown.form
      clear hown hg
      go_wp2_with fail
      go_roundg 0
      case measure => omega
      case rel => exact .inr ⟨by go_num, O3.out, K3.out⟩
    · have O3 : Hid (Own8 B wr u0 (l ++ num z)) := ho
      have K3 : Hid (Below w.heap.size w wr) := hb
      obtain ⟨A3, c3, rfl⟩ := ho.form
      clear ho hb
      go_wp2_with fail
      go_ret
      exact ⟨_, rfl, O3.out, K3.out⟩
end Go.Proofs.YtfaameimocjaiaaDoor
