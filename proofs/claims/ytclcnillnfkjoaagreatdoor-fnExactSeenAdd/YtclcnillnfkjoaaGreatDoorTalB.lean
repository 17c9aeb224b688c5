/- impl.tally: profile. -/
import Derived.Test.YtclcnillnfkjoaaGreatDoorTalA
import Derived.Test.YtclcnillnfkjoaaGreatDoorJ2
namespace Go.Proofs.YtclcnillnfkjoaaGreatDoor
open Go.RowKit Go.Shelf Go.Sort

def snCells (l : List SnM) : List Value := l.flatMap fun s => [.int .i64 s.func, .int .i64 s.pc, .int .i64 s.went, .int .i64 s.past]
theorem snCells_append (a b : List SnM) : snCells (a ++ b) = snCells a ++ snCells b := by simp [snCells]
theorem snCells_length (a : List SnM) : (snCells a).length = a.length * 4 := by
  induction a with
  | nil => rfl
  | cons x a ih => show (_ ++ snCells a).length = _; rw [List.length_append, ih]; simp; omega

/-- an answer's profile: a slice that owns its cells -/
def SnV (B : Nat) (w : World) (v : Value) (l : List SnM) : Prop := w.ownsRow B 83 4 v l.length (snCells l)

theorem SnV.form {B : Nat} {w : World} {v : Value} {l : List SnM} (h : SnV B w v l) : ∃ A cap, v = .slice A l.length cap := by
  rcases h.2 with ⟨rfl, hz⟩ | ⟨g, cap, cur, rfl, _⟩
  · exact ⟨none, 0, by rw [hz]⟩
  · exact ⟨_, cap, rfl⟩

theorem SnV.lt {B : Nat} {w : World} {v : Value} {l : List SnM} (h : SnV B w v l) : ∀ k, v.ownBlock = some k → B ≤ k := by
  intro k hk
  rcases h.2 with ⟨rfl, _⟩ | ⟨g, cap, cur, rfl, hb, _⟩
  · simp [Value.ownBlock] at hk
  · have : g = k := by simpa [Value.ownBlock] using hk
    omega

theorem SnV.lower {B B' : Nat} {w : World} {v : Value} {l : List SnM} (h : SnV B w v l) (hB : B' ≤ B) : SnV B' w v l := by
  refine ⟨h.1, ?_⟩
  rcases h.2 with hn | ⟨g, cap, cur, hv, hbg, rest⟩
  · exact .inl hn
  · exact .inr ⟨g, cap, cur, hv, Nat.le_trans hB hbg, rest⟩

def seenOf (T : TMap) (k : Int × Int) : SnM := ⟨k.1, k.2, (T k).1, (T k).2⟩

theorem sort_perm (l : List (Int × Int)) : (sortS l).Perm l := by unfold sortS; exact List.mergeSort_perm _ _

theorem sort_rises {l : List (Int × Int)} (hn : l.Nodup) : (sortS l).Pairwise fun a b => a.1 < b.1 ∨ (a.1 = b.1 ∧ a.2 < b.2) := by
  have h1 : (sortS l).Pairwise (fun a b => (!(ltOf ordS) b a) = true) := by
    unfold sortS
    refine List.pairwise_mergeSort ?_ ?_ l
    · intro a b c h1 h2
      simp only [Bool.not_eq_true'] at *
      exact swoS.ntrans c b a h2 h1
    · intro a b
      rw [ltS, ltS]
      by_cases h : b.1 < a.1 ∨ (b.1 = a.1 ∧ b.2 < a.2)
      · rw [decide_eq_true h, decide_eq_false (show ¬ (a.1 < b.1 ∨ (a.1 = b.1 ∧ a.2 < b.2)) by omega)]; rfl
      · rw [decide_eq_false h]; rfl
  have h2 : (sortS l).Nodup := (sort_perm l).nodup_iff.2 hn
  refine (h1.and h2).imp fun {a b} h => ?_
  obtain ⟨h3, h4⟩ := h
  rw [ltS] at h3
  simp only [Bool.not_eq_true', decide_eq_false_iff_not] at h3
  have : ¬ (a.1 = b.1 ∧ a.2 = b.2) := fun e => h4 (Prod.ext e.1 e.2)
  omega

/-- the sorted keys with what was seen there tell it all -/
theorem tells_sorted {L : PL} (hn : (L.map (·.1)).Nodup) (hz : ∀ e ∈ L, e.2 ≠ ((0, 0) : Int × Int)) {ks : List (Int × Int)} (hk : ks.Perm (L.map (·.1))) : TellsT ((sortS ks).map (seenOf (plT L))) (plT L) := by
  have hkn : ks.Nodup := hk.nodup_iff.2 hn
  refine ⟨?_, fun s => ?_⟩
  · rw [List.pairwise_map]
    exact (sort_rises hkn).imp fun h => h
  · rw [List.mem_map]
    constructor
    · rintro ⟨k, hk', rfl⟩
      have hm : k ∈ L.map (·.1) := (hk.mem_iff).1 ((sort_perm ks).mem_iff.1 hk')
      obtain ⟨e, he, rfl⟩ := List.mem_map.1 hm
      have hf : plT L e.1 = e.2 := by unfold plT; rw [findP_of_mem hn he]; rfl
      exact ⟨rfl, by show ((plT L e.1).1, (plT L e.1).2) ≠ _; rw [hf]; exact hz e he⟩
    · rintro ⟨h1, h2⟩
      refine ⟨(s.func, s.pc), ?_, ?_⟩
      · refine (sort_perm ks).mem_iff.2 (hk.mem_iff.2 ?_)
        unfold plT at h1
        cases hf : findP (s.func, s.pc) L with
        | none => rw [hf] at h1; exact absurd h1.symm h2
        | some v =>
          have : ∀ (M : PL), findP (s.func, s.pc) M = some v → (s.func, s.pc) ∈ M.map (·.1) := by
            intro M
            induction M with
            | nil => intro h; cases h
            | cons e M ih =>
              intro h
              unfold findP at h
              by_cases hke : (s.func, s.pc) = e.1
              · simp [hke]
              · rw [if_neg hke] at h
                exact List.mem_cons_of_mem _ (ih h)
          exact this L hf
      · cases s
        unfold seenOf
        simp only at h1 ⊢
        rw [h1]

theorem four_new (W : World) (a b c d : Value) (t : TypeId) (m : Nat) (hm : m = W.heap.size) : ∀ j u, ([a, b, c, d] : List Value)[j]? = some u → (W.alloc (.cells #[a, b, c, d] t)).cell? ((⟨m, 0, none⟩ : Addr).add j) = some u := by
  subst hm
  have h := box_new W #[a, b, c, d] t
  intro j u hj
  have e : ((⟨W.heap.size, 0, none⟩ : Addr).add j) = ⟨W.heap.size, j, none⟩ := by
    by_cases h0 : j = 0
    · subst h0; rfl
    · simp [Addr.add, h0]
  rw [e]
  match j, hj with
  | 0, hj => simp at hj; subst hj; exact h.at0
  | 1, hj => simp at hj; subst hj; exact h.at1
  | 2, hj => simp at hj; subst hj; exact h.at2
  | 3, hj => simp at hj; subst hj; exact h.2 3

def ProfTold (L : PL) (B : Nat) (w w' : World) (e : Ending) : Prop := ∃ v l, e = .returned v ∧ SnV w.heap.size w' v l ∧ TellsT l (plT L) ∧ l.length ≤ L.length ∧ Below B w w'

set_option maxRecDepth 100000 in
set_option maxHeartbeats 3200000 in
theorem implProfile (B b : Nat) (L : PL) (w : World) (hM : MapS w b L) (hB : B ≤ b) (hBw : B ≤ w.heap.size) (hL : L.length ≤ 1048576) :
    Calls Tryz.prog 53 #[.map (some b)] w fun e w' => ProfTold L B w w' e := by
  have hkeys := hM.keys
  have hdrop := implDrop B b L w hM hB hBw
  have HD : Hid (Calls Tryz.prog 83 #[.map (some b)] w fun e w' => TalTold b (seenL L) B w w' e) := hdrop
  have HEnd : Hid (∀ ks : List (Int × Int), ks.Perm ((seenL L).map (·.1)) → TellsT ((sortS ks).map (seenOf (plT L))) (plT L) ∧ ks.length ≤ L.length) := fun ks hk => by
    have hn : ((seenL L).map (·.1)).Nodup := hkeys.sublist ((List.filter_sublist).map _)
    have h := tells_sorted hn (fun e he => by have := (List.mem_filter.1 he).2; simpa using this) hk
    rw [plT_seen hkeys] at h
    refine ⟨h, ?_⟩
    have h2 := hk.length_eq
    rw [List.length_map] at h2
    have h3 : (seenL L).length ≤ L.length := List.length_filter_le _ _
    omega
  have HLen : Hid ((seenL L).length ≤ 1048576) := Nat.le_trans (List.length_filter_le _ _) hL
  have HT : Hid (plT (seenL L) = plT L) := plT_seen hkeys
  clear hdrop hM hkeys
  go_enter Tryz.func53, Tryz.ntmps53
  go_wp2_with fail
  refine Calls.mono (R := fun e w' => TalTold b (seenL L) B w w' e) HD.out ?_
  rintro e w1 ⟨rfl, hM1, hb1⟩
  have HM1 : Hid (MapS w1 b (seenL L)) := hM1
  have Hb1 : Hid (Below B w w1) := hb1
  clear hM1 hb1 HD
  go_wp2_with fail
  refine (implKeys (some b) w1).mono ?_
  rintro e w2 ⟨rfl, hw2⟩
  have Hb2 : Hid (Below w1.heap.size w1 w2) := by show Below _ _ _; rw [hw2]; exact (Below.refl _ _).alloc (Nat.le_refl _) _
  have HX : Hid (Box w2 w1.heap.size #[.map (some b)]) := by show Box _ _ _; rw [hw2]; exact box_new w1 #[.map (some b)] _
  have HS : Hid (Calls Tryz.prog 84 #[.func (.func 111) #[] #[.pointer (some ⟨w1.heap.size, 0, none⟩)], .func (.func 81) #[] #[]] w2 fun e w' => ∃ v ks, e = .returned v ∧ List.Perm ks ((seenL L).map (·.1)) ∧ SpotRow w2.heap.size w' v (sortS ks) ∧ Below w2.heap.size w2 w') := implSortedF w1.heap.size b (seenL L) w2 HX.out.1 HX.out.at0 (HM1.out.below Hb2.out) HLen.out
  clear hw2
  go_wp2_with fail
  refine Calls.mono (R := fun e w' => ∃ v ks, e = .returned v ∧ List.Perm ks ((seenL L).map (·.1)) ∧ SpotRow w2.heap.size w' v (sortS ks) ∧ Below w2.heap.size w2 w') HS.out ?_
  rintro e w3 ⟨v, ks, rfl, hperm, hrow, hb3⟩
  obtain ⟨hE1, hE2⟩ := HEnd.out ks hperm
  obtain ⟨so, hso⟩ : ∃ so, so = sortS ks := ⟨_, rfl⟩
  have hsl : so.length ≤ 1048576 := by rw [hso, (sort_perm ks).length_eq]; omega
  have hsl2 : so.length ≤ L.length := by rw [hso, (sort_perm ks).length_eq]; omega
  rw [← hso] at hE1 hrow
  have HE1 : Hid (TellsT (so.map (seenOf (plT L))) (plT L)) := hE1
  have HE2 : Hid (so.length ≤ L.length) := hsl2
  have Hb3 : Hid (Below w1.heap.size w1 w3) := Hb2.out.trans (hb3.mono Hb2.out.size)
  have HM3 : Hid (MapS w3 b (seenL L)) := HM1.out.below Hb3.out
  obtain ⟨A, cap, rfl, hcells⟩ := hrow
  have HC : Hid (∀ i (h : i < so.length), ∃ b off, A = some ⟨b, off, none⟩ ∧ w2.heap.size ≤ b ∧ b < w3.heap.size ∧ w3.cell? ⟨b, off + i * 2, none⟩ = some (.int .i64 so[i].1) ∧ w3.cell? ⟨b, off + i * 2 + 1, none⟩ = some (.int .i64 so[i].2)) := hcells
  have HB3 : Hid (Below B w w3 ∧ w.heap.size ≤ w3.heap.size ∧ B ≤ w3.heap.size) := by
    have h1 := Hb1.out.size
    have h2 := Hb3.out.size
    exact ⟨Hb1.out.trans (Hb3.out.mono (by omega)), by omega, by omega⟩
  clear hE1 hE2 hsl2 hb3 hcells hperm hso HS HX HEnd Hb1 Hb2 Hb3 HM1 HLen
  obtain ⟨ps, hps⟩ : ∃ ps, ps = so.map (seenOf (plT L)) := ⟨_, rfl⟩
  rw [← hps] at HE1
  have hpl : ps.length = so.length := by rw [hps, List.length_map]
  have HPs : Hid (ps = so.map (seenOf (plT L))) := hps
  have HPl : Hid (ps.length = so.length) := hpl
  clear hps hpl
  obtain ⟨i0, hi, hz0, hz1, hz2⟩ := info_parts Tryz.infoSeen
  go_wp2_with fail
  go_loopg [3, 5, 6, 13] (so.length) (fun g v x5 x6 i wr => ∃ q : Nat, q ≤ so.length ∧ i = .int .i64 (q : Int) ∧ so.length ≤ q + g ∧ Below w3.heap.size w3 wr ∧ SnV w3.heap.size wr v (ps.take q))
  case atStart => exact ⟨0, Nat.zero_le _, rfl, by omega, Below.refl _ _, World.ownsRow_nil _ _ _ _⟩
  case round =>
    obtain ⟨q, hq, rfl, hqg, hb, hv⟩ := hrel
    have Hb : Hid (Below w3.heap.size w3 wr) := hb
    have HV : Hid (SnV w3.heap.size wr u3 (ps.take q)) := hv
    clear hb hv
    obtain ⟨Av, cv, rfl⟩ := HV.out.form
    have hml : (ps.take q).length = q := by have := HPl.out; rw [List.length_take]; omega
    rw [hml] at HV ⊢
    by_cases hql : q < so.length
    · obtain ⟨b0, off0, rfl, _, hlt0, e0', e1'⟩ := HC.out q hql
      have hlt : b0 < wr.heap.size := Nat.lt_of_lt_of_le hlt0 Hb.out.size
      have e0 := (Hb.out.cell (p := ⟨b0, off0 + q * 2, none⟩) (by exact hlt0)).trans e0'
      have e1 := (Hb.out.cell (p := ⟨b0, off0 + q * 2 + 1, none⟩) (by exact hlt0)).trans e1'
      clear e0' e1' hlt0
      obtain ⟨k1, k2, hk⟩ : ∃ k1 k2, so[q] = (k1, k2) := ⟨_, _, rfl⟩
      obtain ⟨t1, t2, ht⟩ : ∃ t1 t2, plT L (k1, k2) = (t1, t2) := ⟨_, _, rfl⟩
      rw [hk] at e0 e1
      have HN : Hid (ps.take (q + 1) = ps.take q ++ [⟨k1, k2, t1, t2⟩]) := by
        show _ = _
        have hq2 : q < ps.length := by rw [HPl.out]; exact hql
        have h3 : ps[q] = ⟨k1, k2, t1, t2⟩ := by
          have h4 : ps[q]? = some (seenOf (plT L) so[q]) := by rw [HPs.out, List.getElem?_map, List.getElem?_eq_getElem hql]; rfl
          rw [List.getElem?_eq_getElem hq2] at h4
          rw [Option.some.inj h4, hk]
          unfold seenOf
          rw [ht]
        rw [List.take_add_one, List.getElem?_eq_getElem hq2, h3]
        rfl
      have HA1 : Hid (Below w3.heap.size w3 (wr.alloc (.cells #[.int .i64 k1, .int .i64 k2] 131))) := Hb.out.alloc Hb.out.size _
      have l1 : (Instr.lookup 88 (.map (some b)) (.agg #[.int .i64 k1, .int .i64 k2]) false).run Tryz.prog (wr.alloc (.cells #[.int .i64 k1, .int .i64 k2] 131)) = .ok (.agg #[.int .i64 t1, .int .i64 t2]) (wr.alloc (.cells #[.int .i64 k1, .int .i64 k2] 131)) := by
        have h := ((HM3.out.below HA1.out).look (k1, k2)).2
        have e : (findP (k1, k2) (seenL L)).getD (0, 0) = (t1, t2) := by
          have h2 := congrFun HT.out (k1, k2)
          rw [ht] at h2
          exact h2
        rw [e] at h
        exact h
      clear hk ht
      have HO : Hid (wr.ownsRow w3.heap.size 83 4 (.slice Av q cv) q (snCells (ps.take q))) := by have h := HV.out; unfold SnV at h; rw [hml] at h; exact h
      go_wp2_with (at_builtin; refine wpList_append_own _ rfl _ _ 40 rfl w3.heap.size 83 i0 (.agg #[.int .i64 0, .int .i64 0, .int .i64 0, .int .i64 0]) 4 32 Tryz.underlying40 hi hz0 hz1 hz2 rfl (by decide) _ _ _ rfl (((HO.out.alloc _).alloc _).alloc _) ⟨_, 0, none⟩ 1 1 [.int .i64 k1, .int .i64 k2, .int .i64 t1, .int .i64 t2] rfl rfl (four_new _ _ _ _ _ _ _ ?c1) ?c2 ?c3 ?c4 ?c5 ?_)
      case c2 => first | (intro u hu; simp at hu; rcases hu with rfl | rfl | rfl | rfl <;> rfl) | exact ⟨rfl, rfl, rfl, rfl⟩ | simp [Value.oneCell']
      case c3 => unfold maxLen; omega
      case c4 => omega
      case c5 => have := Hb.out.size; simp; omega
      intro v' w5 hown hgrow _
      have HV6 : Hid (SnV w3.heap.size w5 v' (ps.take (q + 1))) := by
        show w5.ownsRow _ _ _ _ _ _
        rw [HN.out, List.length_append, hml, snCells_append]
        exact hown
      have Hb6 : Hid (Below w3.heap.size w3 w5) := (((Hb.out.alloc Hb.out.size _).alloc (by have := Hb.out.size; simp; omega) _).alloc (by have := Hb.out.size; simp; omega) _).grown hgrow (by have := Hb.out.size; simp; omega) (fun k hk => HV.out.lt k hk)
      clear hown hgrow HO
      go_wp2_with fail
      go_roundg (gk - 1)
      case measure => omega
      case rel => exact ⟨q + 1, by omega, by go_num, by omega, Hb6.out, HV6.out⟩
    · have hqe : q = so.length := by omega
      subst hqe
      go_wp2_with fail
      go_ret
      have hV := HV.out
      rw [← HPl.out, List.take_length] at hV
      obtain ⟨h1, h2, h3⟩ := HB3.out
      rw [HPl.out] at hV
      refine ⟨.slice Av so.length cv, _, rfl, hV.lower h2, HE1.out, ?_, h1.trans (Hb.out.mono h3)⟩
      rw [HPl.out]
      exact HE2.out
end Go.Proofs.YtclcnillnfkjoaaGreatDoor
