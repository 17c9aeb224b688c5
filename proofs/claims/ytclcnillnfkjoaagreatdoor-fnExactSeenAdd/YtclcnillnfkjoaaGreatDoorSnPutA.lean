/- spec.l07Put. -/
import Derived.Test.YtclcnillnfkjoaaGreatDoorTalB
import Derived.Test.YtclcnillnfkjoaaGreatDoorLessS
import Derived.Test.YtclcnillnfkjoaaGreatDoorVRow
namespace Go.Proofs.YtclcnillnfkjoaaGreatDoor
open Go.RowKit

/-- an append whose run is known -/
theorem wpList_appendRun {w : World} {ops : Array Oper} {rest : List Oper} {o : Oper} {a : Act} {Q : Exit → Act → World → Prop} (hgd : o.guard = none) (sl x : Operand) (T : TypeId)
    (ho : o.op = .call { callee := .builtin .append, args := #[sl, x], argTypes := #[T, T] }) (v y : Value) (hs : a.eval sl = v) (hx : a.eval x = y) (v' : Value) (w' : World) (hr : (Builtin.append_ #[T, T] o.type #[v, y]).run Tryz.prog w = .ok v' w')
    (h : wpList Tryz.prog ops Q rest (a.put o.dst v') w') : wpList Tryz.prog ops Q (o :: rest) a w := by
  refine wpList_plain hgd fun K hK => ?_
  unfold Oper.wp execOp
  simp only [ho, resolve, invoke, builtin, Sem.run_bind, Sem.run_pure, Result.andThen_ok, List.map_toArray, List.map_cons, List.map_nil, hs, hx, hr]
  exact hK _ _ h

theorem specMin (a b : Int) (w : World) : Calls Tryz.prog 57 #[.int .i64 a, .int .i64 b] w fun e w' => e = .returned (.int .i64 (min a b)) ∧ w' = w := by
  by_cases h : a < b
  · have hm : min a b = a := by omega
    rw [hm]
    go_enter Tryz.func57, Tryz.ntmps57
    go_wp2
    go_ret
    exact ⟨rfl, rfl⟩
  · have hm : min a b = b := by omega
    rw [hm]
    go_enter Tryz.func57, Tryz.ntmps57
    go_wp2
    go_ret
    exact ⟨rfl, rfl⟩

/-- nothing appended -/
theorem run_append_none (W : World) (g n c cap : Nat) (A : Option Addr) (ty : TypeId) (hc : n ≤ c) :
    (Builtin.append_ #[40, 40] ty #[.slice (some ⟨g, 0, none⟩) n c, .slice A 0 cap]).run Tryz.prog W = .ok (.slice (some ⟨g, 0, none⟩) n c) W := by
  obtain ⟨i0, hi, hz0, hz1, hz2⟩ := info_parts Tryz.infoSeen
  have hl : ∀ (x : Addr), (loadCells x 0).run Tryz.prog W = .ok #[] W := fun x => by simpa using run_loadCells_list (P := Tryz.prog) W x [] (by simp)
  cases A <;> simp [Builtin.append_, run_underlying Tryz.underlying40, Builtin.lenOf, Builtin.firstCells, sizeOf, typeInfo, hi, hz1, hc, storeCells, hl]

/-- the cells from an address on read as these -/
def SnCells (w : World) (A : Option Addr) (r : List SnM) : Prop := ∀ i (h : i < r.length), ∃ b off, A = some ⟨b, off, none⟩ ∧ b < w.heap.size ∧
    w.cell? ⟨b, off + i * 4, none⟩ = some (.int .i64 r[i].func) ∧ w.cell? ⟨b, off + i * 4 + 1, none⟩ = some (.int .i64 r[i].pc) ∧
    w.cell? ⟨b, off + i * 4 + 2, none⟩ = some (.int .i64 r[i].went) ∧ w.cell? ⟨b, off + i * 4 + 3, none⟩ = some (.int .i64 r[i].past)

theorem SnCells.below {w w' : World} {A : Option Addr} {r : List SnM} (h : SnCells w A r) (hb : Below w.heap.size w w') : SnCells w' A r := fun i hi => by
  obtain ⟨b, off, h1, h2, h3, h4, h5, h6⟩ := h i hi
  exact ⟨b, off, h1, Nat.lt_of_lt_of_le h2 hb.size, by rw [hb.cell (by exact h2)]; exact h3, by rw [hb.cell (by exact h2)]; exact h4, by rw [hb.cell (by exact h2)]; exact h5, by rw [hb.cell (by exact h2)]; exact h6⟩

theorem snCells_at : ∀ (l : List SnM) (i : Nat) (h : i < l.length), (snCells l)[i * 4]? = some (.int .i64 l[i].func) ∧ (snCells l)[i * 4 + 1]? = some (.int .i64 l[i].pc) ∧ (snCells l)[i * 4 + 2]? = some (.int .i64 l[i].went) ∧ (snCells l)[i * 4 + 3]? = some (.int .i64 l[i].past)
  | x :: l, 0, _ => ⟨rfl, rfl, rfl, rfl⟩
  | x :: l, i + 1, h => by
    have := snCells_at l i (by simpa using h)
    have e : snCells (x :: l) = .int .i64 x.func :: .int .i64 x.pc :: .int .i64 x.went :: .int .i64 x.past :: snCells l := rfl
    rw [e, show (i + 1) * 4 = i * 4 + 1 + 1 + 1 + 1 by omega]
    simpa using this

/-- an own slice grows by what is read elsewhere -/
theorem snAppend {B : Nat} {w : World} {g c : Nat} {l : List SnM} (hV : SnV B w (.slice (some ⟨g, 0, none⟩) l.length c) l) (hB : B ≤ w.heap.size) (A : Option Addr) (m cap : Nat) (r : List SnM) (hm : m = r.length) (hs : SnCells w A r) (hlen : l.length + r.length ≤ 1048576) (ty : TypeId) :
    ∃ g' c' w', (Builtin.append_ #[40, 40] ty #[.slice (some ⟨g, 0, none⟩) l.length c, .slice A m cap]).run Tryz.prog w = .ok (.slice (some ⟨g', 0, none⟩) (l ++ r).length c') w' ∧ SnV B w' (.slice (some ⟨g', 0, none⟩) (l ++ r).length c') (l ++ r) ∧ Below B w w' := by
  subst hm
  cases hr : r with
  | nil =>
    subst hr
    rw [List.append_nil]
    have hc : l.length ≤ c := by
      rcases hV.2 with ⟨h, _⟩ | ⟨g', cap', cur, h, _, _, hn, _⟩
      · cases h
      · cases h; exact hn
    exact ⟨g, c, w, run_append_none w g l.length c cap A ty hc, hV, Below.refl _ _⟩
  | cons y r' =>
    rw [← hr]
    have hr0 : 0 < r.length := by rw [hr]; simp
    obtain ⟨b, off, rfl, hlt, _⟩ := hs 0 hr0
    have hcs : ∀ j u, (snCells r)[j]? = some u → w.cell? ((⟨b, off, none⟩ : Addr).add j) = some u := fun j u hj => by
      have hjl : j < r.length * 4 := by rw [← snCells_length]; exact (List.getElem?_eq_some_iff.1 hj).1
      have hi : j / 4 < r.length := by omega
      obtain ⟨b', off', e, _, h0, h1, h2, h3⟩ := hs (j / 4) hi
      simp only [Option.some.injEq, Addr.mk.injEq, and_true] at e
      obtain ⟨rfl, rfl⟩ := e
      obtain ⟨c0, c1, c2, c3⟩ := snCells_at r (j / 4) hi
      have ea : ((⟨b, off, none⟩ : Addr).add j) = ⟨b, off + j, none⟩ := by
        by_cases h0 : j = 0
        · subst h0; rfl
        · simp [Addr.add, h0]
      rw [ea]
      rcases (show j = j / 4 * 4 ∨ j = j / 4 * 4 + 1 ∨ j = j / 4 * 4 + 2 ∨ j = j / 4 * 4 + 3 by omega) with e | e | e | e
      · rw [← e] at c0; rw [hj] at c0; rw [← e] at h0; rw [h0, c0]
      · rw [← e] at c1; rw [hj] at c1; rw [Nat.add_assoc, ← e] at h1; rw [h1, c1]
      · rw [← e] at c2; rw [hj] at c2; rw [Nat.add_assoc, ← e] at h2; rw [h2, c2]
      · rw [← e] at c3; rw [hj] at c3; rw [Nat.add_assoc, ← e] at h3; rw [h3, c3]
    obtain ⟨i0, hi, hz0, hz1, hz2⟩ := info_parts Tryz.infoSeen
    obtain ⟨v', w', hrun, hown, hgrow, hnil⟩ := run_append_own (P := Tryz.prog) w B 40 ty 83 i0 (.agg #[.int .i64 0, .int .i64 0, .int .i64 0, .int .i64 0]) 4 32 Tryz.underlying40 hi hz0 hz1 hz2 rfl (by decide) _ _ _ hV ⟨b, off, none⟩ r.length cap (snCells r) (snCells_length r) hcs (fun u hu => by
      unfold snCells at hu
      simp only [List.mem_flatMap] at hu
      obtain ⟨x, _, hx⟩ := hu
      simp at hx
      rcases hx with rfl | rfl | rfl | rfl <;> rfl) (by unfold maxLen; omega) (by omega) hB
    rw [← snCells_append] at hown
    have hV' : SnV B w' v' (l ++ r) := by unfold SnV; rw [List.length_append]; exact hown
    obtain ⟨g', c', rfl⟩ : ∃ g' c', v' = .slice (some ⟨g', 0, none⟩) (l ++ r).length c' := by
      rcases hV'.2 with ⟨rfl, h0⟩ | ⟨g', c', cur, rfl, _⟩
      · rw [List.length_append] at h0; omega
      · exact ⟨g', c', rfl⟩
    exact ⟨g', c', w', hrun, hV', (Below.refl B w).grown hgrow hB (fun k hk => hV.lt k hk)⟩

theorem ahead_iff (x : SnM) : ∀ (l : List SnM) (k : Nat) (h : k < l.length), k ≤ aheadN x l → (snLess l[k] x ↔ k < aheadN x l) := fun l k h hk =>
  ⟨fun hs => by
    rcases Nat.lt_or_ge k (aheadN x l) with h1 | h1
    · exact h1
    · have e : k = aheadN x l := by omega
      subst e
      exact absurd hs (aheadN_stop x l h), fun hl => aheadN_at x l k h hl⟩

theorem SnV.cells {B : Nat} {w : World} {g c : Nat} {l : List SnM} (h : SnV B w (.slice (some ⟨g, 0, none⟩) l.length c) l) : l.length ≤ c ∧ B ≤ g ∧ g < w.heap.size ∧ ∀ i (h : i < l.length), w.cell? ⟨g, i * 4, none⟩ = some (.int .i64 l[i].func) ∧ w.cell? ⟨g, i * 4 + 1, none⟩ = some (.int .i64 l[i].pc) ∧ w.cell? ⟨g, i * 4 + 2, none⟩ = some (.int .i64 l[i].went) ∧ w.cell? ⟨g, i * 4 + 3, none⟩ = some (.int .i64 l[i].past) := by
  rcases h.2 with ⟨h, _⟩ | ⟨g', cap', cur, h, hb, hh, hn, hm, hs, ht⟩
  · cases h
  · cases h
    refine ⟨hn, hb, (Array.getElem?_eq_some_iff.1 hh).1, fun i hi => ?_⟩
    obtain ⟨c0, c1, c2, c3⟩ := snCells_at l i hi
    have hc : ∀ (j : Nat) (v : Value), j < l.length * 4 → (snCells l)[j]? = some v → w.cell? ⟨g, j, none⟩ = some v := fun j v hj hv => by
      rw [← ht, List.getElem?_take_of_lt hj, Array.getElem?_toList] at hv
      simp [World.cell?, hh, hv]
    exact ⟨hc _ _ (by omega) c0, hc _ _ (by omega) c1, hc _ _ (by omega) c2, hc _ _ (by omega) c3⟩

theorem SnV.below {B : Nat} {w w' : World} {v : Value} {l : List SnM} (h : SnV B w v l) (hb : Below w.heap.size w w') : SnV B w' v l := by
  refine ⟨h.1, ?_⟩
  rcases h.2 with hn | ⟨g, cap, cur, hv, hbg, hh, rest⟩
  · exact .inl hn
  · exact .inr ⟨g, cap, cur, hv, hbg, by rw [hb.block g (Array.getElem?_eq_some_iff.1 hh).1]; exact hh, rest⟩

/-- a part of an own slice, read -/
theorem SnV.part {B : Nat} {w : World} {g c : Nat} {l : List SnM} (h : SnV B w (.slice (some ⟨g, 0, none⟩) l.length c) l) (k : Nat) (r : List SnM) (hr : ∀ i (h : i < r.length), ∃ h2 : k + i < l.length, r[i] = l[k + i]) : SnCells w (some ⟨g, k * 4, none⟩) r := fun i hi => by
  obtain ⟨h2, e⟩ := hr i hi
  obtain ⟨_, _, hg, hc⟩ := h.cells
  obtain ⟨c0, c1, c2, c3⟩ := hc (k + i) h2
  have ek : (k + i) * 4 = k * 4 + i * 4 := by omega
  rw [ek] at c0 c1 c2 c3
  rw [e]
  exact ⟨g, k * 4, rfl, hg, c0, c1, c2, c3⟩

theorem sn_nil (B : Nat) (w : World) (hB : B ≤ w.heap.size) : SnV B (w.alloc (.cells #[] 83)) (.slice (some ⟨w.heap.size, 0, none⟩) 0 0) [] :=
  World.ownsRow_lit (base := B) (e := 83) (size := 4) w #[] 0 hB (Nat.zero_le _) rfl

theorem SnV.setLow {B : Nat} {w : World} {v : Value} {l : List SnM} (h : SnV B w v l) {q : Addr} (hq : q.block < B) (u : Value) : SnV B (w.setCell q u) v l := by
  refine ⟨h.1, ?_⟩
  rcases h.2 with hn | ⟨g, cap, cur, hv, hbg, hh, rest⟩
  · exact .inl hn
  · exact .inr ⟨g, cap, cur, hv, hbg, (Below.heap_setCell w q u g (by omega)).trans hh, rest⟩

theorem four_box {w : World} {b : Nat} {x y z u : Value} (h : Box w b #[x, y, z, u]) : b < w.heap.size ∧ w.cell? ⟨b, 0, none⟩ = some x ∧ w.cell? ⟨b, 1, none⟩ = some y ∧ w.cell? ⟨b, 2, none⟩ = some z ∧ w.cell? ⟨b, 3, none⟩ = some u :=
  ⟨h.1, h.at0, h.at1, h.at2, by have := h.2 3; simpa using this⟩

theorem four_vrow {w : World} {b : Nat} {x y z u : Value} (h : VRow w b [x, y, z, u]) : b < w.heap.size ∧ w.cell? ⟨b, 0, none⟩ = some x ∧ w.cell? ⟨b, 1, none⟩ = some y ∧ w.cell? ⟨b, 2, none⟩ = some z ∧ w.cell? ⟨b, 3, none⟩ = some u :=
  ⟨h.1, (h.2 0 (by simp)).1, (h.2 1 (by simp)).1, (h.2 2 (by simp)).1, (h.2 3 (by simp)).1⟩

/-- a profile's own slice, and the thing that is put, on the way -/
def PutW (w w3 : World) (g4 k c4 : Nat) (r : List SnM) (f a u t : Int) (wc : World) : Prop := Below w.heap.size w wc ∧ w3.heap.size ≤ wc.heap.size ∧ SnV w3.heap.size wc (.slice (some ⟨g4, 0, none⟩) k c4) r ∧ VRow wc w.heap.size [.int .i64 f, .int .i64 a, .int .i64 u, .int .i64 t]

theorem PutW.drew {w w3 : World} {g4 k c4 : Nat} {r : List SnM} {f a u t : Int} {wc : World} (h : PutW w w3 g4 k c4 r f a u t wc) : PutW w w3 g4 k c4 r f a u t wc.drew :=
  ⟨h.1.drew, h.2.1, h.2.2.1.below (Below.refl _ _).drew, h.2.2.2.below (Below.refl _ _).drew⟩

theorem PutW.set2 {w w3 : World} {g4 k c4 : Nat} {r : List SnM} {f a u t : Int} {wc : World} (h : PutW w w3 g4 k c4 r f a u t wc) (hw : w.heap.size < w3.heap.size) (u' : Int) : PutW w w3 g4 k c4 r f a u' t (wc.setCell ⟨w.heap.size, 2, none⟩ (.int .i64 u')) :=
  ⟨h.1.setCell (Nat.le_refl _) _, by simpa using h.2.1, h.2.2.1.setLow (by exact hw) _, by have := h.2.2.2.set_at 2 (.int .i64 u') (by simp); simpa using this⟩

theorem PutW.set3 {w w3 : World} {g4 k c4 : Nat} {r : List SnM} {f a u t : Int} {wc : World} (h : PutW w w3 g4 k c4 r f a u t wc) (hw : w.heap.size < w3.heap.size) (u' : Int) : PutW w w3 g4 k c4 r f a u u' (wc.setCell ⟨w.heap.size, 3, none⟩ (.int .i64 u')) :=
  ⟨h.1.setCell (Nat.le_refl _) _, by simpa using h.2.1, h.2.2.1.setLow (by exact hw) _, by have := h.2.2.2.set_at 3 (.int .i64 u') (by simp); simpa using this⟩

theorem sn_one (w : World) (f a u t : Int) (ty : TypeId) : SnCells (w.alloc (.cells #[.int .i64 f, .int .i64 a, .int .i64 u, .int .i64 t] ty)) (some ⟨w.heap.size, 0, none⟩) [⟨f, a, u, t⟩] := fun i hi => by
  have h := box_new w #[.int .i64 f, .int .i64 a, .int .i64 u, .int .i64 t] ty
  have hi0 : i = 0 := by simpa using hi
  subst hi0
  obtain ⟨h0, h1, h2, h3, h4⟩ := four_box h
  exact ⟨_, 0, rfl, h0, h1, h2, h3, h4⟩

def PutTold (l : List SnM) (w w' : World) (e : Ending) : Prop := ∃ g c, e = .returned (.slice (some ⟨g, 0, none⟩) l.length c) ∧ SnV w.heap.size w' (.slice (some ⟨g, 0, none⟩) l.length c) l ∧ Below w.heap.size w w'

/-- an append onto an own slice, whatever the world has grown by -/
def AppT (B : Nat) (w : World) (g c : Nat) (l : List SnM) (A : Option Addr) (m cap : Nat) (r : List SnM) : Prop :=
  ∃ g' c' w', (Builtin.append_ #[40, 40] 40 #[.slice (some ⟨g, 0, none⟩) l.length c, .slice A m cap]).run Tryz.prog w = .ok (.slice (some ⟨g', 0, none⟩) (l ++ r).length c') w' ∧ SnV B w' (.slice (some ⟨g', 0, none⟩) (l ++ r).length c') (l ++ r) ∧ Below B w w'

end Go.Proofs.YtclcnillnfkjoaaGreatDoor
