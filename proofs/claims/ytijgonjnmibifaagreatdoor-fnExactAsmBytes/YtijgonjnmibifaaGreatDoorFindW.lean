/- impl.findHeights. -/
import Derived.Test.YtijgonjnmibifaaGreatDoorGoOnW
import Derived.Test.YtijgonjnmibifaaGreatDoorImplP
import Derived.BigRegion
import Derived.Deep.RegionHeld3
namespace Go.Proofs.YtijgonjnmibifaaGreatDoor
open Go.RowKit

/-- what findHeights tells: heights by place; the place and the code of the first fault -/
def FoundIs (p : List FnM) (c : List (Int × Int)) (w w' : World) (e : Ending) : Prop :=
  ∃ Bm at' code, e = .returned (.tuple #[.map (some Bm), .int .i64 at', .int .i64 code]) ∧ Below w.heap.size w w' ∧
    ((code = 0 ∧ ∃ s, IOk c.length s ∧ MapH w' Bm s.m ∧ (ArgsUp p → HRun p c (startH c.length) (.inl (hsOf c.length s).h) ∧ HUp s)) ∨
      (code ≠ 0 ∧ ∃ a : Nat, at' = a ∧ (ArgsUp p → HRun p c (startH c.length) (.inr (a, code)))))

theorem stepI_code {next t : Int} {s : IS} {x : Int} (h : stepI next t s = .inr x) : x = 6 ∨ x = 5 := by
  unfold stepI at h
  split at h
  · cases h; exact .inl rfl
  · split at h
    · split at h
      · cases h
      · cases h; exact .inr rfl
    · cases h

theorem goOnI_snoc {next : Int} (t : Int) : ∀ (l : List Int) (s : IS), goOnI next (l ++ [t]) s = (match goOnI next l s with | .inl s' => stepI next t s' | .inr c => .inr c)
  | [], s => by
    show (match stepI next t s with | .inl s' => goOnI next [] s' | .inr c => .inr c) = stepI next t s
    cases stepI next t s <;> rfl
  | x :: l, s => by
    show (match stepI next x s with | .inl s' => goOnI next (l ++ [t]) s' | .inr c => .inr c) = (match (match stepI next x s with | .inl s' => goOnI next l s' | .inr c => .inr c) with | .inl s' => stepI next t s' | .inr c => .inr c)
    cases stepI next x s with
    | inl s' => exact goOnI_snoc t l s'
    | inr c => rfl

theorem goOnI_fault {next : Int} {c : Int} (l' : List Int) : ∀ (l : List Int) (s : IS), goOnI next l s = .inr c → goOnI next (l ++ l') s = .inr c
  | [], s, h => by cases h
  | x :: l, s, h => by
    have h' : (match stepI next x s with | .inl s' => goOnI next l s' | .inr c => .inr c) = (.inr c : IS ⊕ Int) := h
    show (match stepI next x s with | .inl s' => goOnI next (l ++ l') s' | .inr c => .inr c) = .inr c
    cases hs : stepI next x s with
    | inl s' => rw [hs] at h'; exact goOnI_fault l' l s' h'
    | inr d => rw [hs] at h'; exact h'

theorem goOnI_take {next : Int} {ts : List Int} {s s2 : IS} {q : Nat} (hq : q < ts.length) (h : goOnI next (ts.take q) s = .inl s2) : goOnI next (ts.take (q + 1)) s = stepI next ts[q] s2 := by
  rw [List.take_succ_eq_append_getElem hq, goOnI_snoc, h]

theorem goOnI_take_fault {next : Int} {ts : List Int} {s s2 : IS} {q : Nat} {c : Int} (hq : q < ts.length) (h : goOnI next (ts.take q) s = .inl s2) (hf : stepI next ts[q] s2 = .inr c) : goOnI next ts s = .inr c := by
  rw [← List.take_append_drop (q + 1) ts]
  exact goOnI_fault _ _ _ (by rw [goOnI_take hq h, hf])

theorem leaves_wf (p : List FnM) (h : Int) (i : Int × Int) : (Lit.int .i64 (leaves p h i)).wf = true := wrap64_wf _

set_option maxRecDepth 100000 in
set_option maxHeartbeats 3200000 in
theorem implFind (v : Value) (p : List FnM) (f : Nat) (w : World) (ht : Tab w) (hr : FnRow 0 w v p) (hf : f < p.length) (hn1 : 1 ≤ p[f].code.length) (hn2 : p[f].code.length ≤ 60)
    (hto : ∀ j, j < p[f].code.length → ∀ t ∈ goesTo j (insAt p[f].code j), 0 ≤ t ∧ t ≤ p[f].code.length) :
    Calls Tryz.prog 58 #[.agg #[v], .int .i64 f] w fun e w' => FoundIs p p[f].code w w' e := by
  have Hr : Hid (FnRow 0 w v p) := hr
  have Ht : Hid (Tab w) := ht
  have hlen := hr.len
  obtain ⟨A, cap, rfl⟩ := hr.form
  obtain ⟨b0, off0, x, rfl, hlt0, _, _, e2, hx⟩ := hr.at f hf
  clear hr ht
  obtain ⟨c, hc⟩ : ∃ c, c = p[f].code := ⟨_, rfl⟩
  rw [← hc] at hx hn1 hn2 hto ⊢
  clear hc
  have Hto : Hid (∀ j, j < c.length → ∀ t ∈ goesTo j (insAt c j), 0 ≤ t ∧ t ≤ c.length) := hto
  have Hx : Hid (InsRow 0 w x c) := hx
  obtain ⟨Ac, capc, rfl⟩ := hx.form
  clear hto hx
  have hmm := @run_makeMap Tryz.prog
  go_enter Tryz.func58, Tryz.ntmps58
  go_wp2_with fail
  go_step3
  obtain ⟨W0, HW0⟩ : ∃ W0, Hid (W0 = ((w.alloc (.cells #[.slice (some ⟨b0, off0, none⟩) p.length cap] 34)).alloc (.cells #[.map none] 118)).alloc (.cells #[.slice Ac c.length capc] 103)) := ⟨_, rfl⟩
  have hs0 : W0.heap.size = w.heap.size + 1 + 1 + 1 := by rw [HW0.out]; simp
  obtain ⟨w1, hup, hM, hg, hs1⟩ := MapH.start W0 c.length hn1 (by omega)
  go_upto_region 2 with fail
  rw [← HW0.out]
  have hx1 : VRow w1 (w.heap.size + 1) [.map none] ∧ Box w1 w.heap.size #[.slice (some ⟨b0, off0, none⟩) p.length cap] ∧ Box w1 (w.heap.size + 1 + 1) #[.slice Ac c.length capc] ∧ Below w.heap.size w w1 := by
    obtain ⟨y0, y1, y2, y3⟩ := three_box w #[.slice (some ⟨b0, off0, none⟩) p.length cap] #[.map none] #[.slice Ac c.length capc] 34 118 103
    rw [← HW0.out] at y0 y1 y2 y3
    have hga : W0.grownBy w1 (some W0.heap.size) := grown_trans (World.grownBy_alloc W0 _ _) hg
    have hnA : ∀ k, k < W0.heap.size → some k ≠ some W0.heap.size := fun k hk e => by simp at e; omega
    exact ⟨y1.grown hga (hnA _ (by omega)), y0.grown hga (hnA _ (by omega)), y2.grown hga (hnA _ (by omega)), y3.grown hga y3.size (fun k hk => by cases hk; exact y3.size)⟩
  obtain ⟨hv1, hbx, hbi, hbl⟩ := hx1
  rw [hs0] at hM
  have u0 := (hv1.2 0 (by simp)).1
  have u1 := (hv1.2 0 (by simp)).2
  simp only [List.getElem_cons_zero] at u0
  rw [hs0] at hup hs1
  have hz1 : w.heap.size + 1 < w1.heap.size := by omega
  have HS : Hid (ImS w (((w1.setCell ⟨w.heap.size + 1, 0, none⟩ (.map (some (w.heap.size + 1 + 1 + 1)))).alloc (.cells #[.int .i64 0] 2)).alloc (.cells #[.slice (some ⟨w.heap.size + 1 + 1 + 1 + 1, 0, none⟩) 1 1] 106)) w.heap.size (.slice (some ⟨b0, off0, none⟩) p.length cap) (.slice Ac c.length capc) (startI c.length)) := by
    have hv2 := hv1.set_at 0 (.map (some (w.heap.size + 1 + 1 + 1))) (by simp)
    have hbs := hbx.set_far ⟨w.heap.size + 1, 0, none⟩ (.map (some (w.heap.size + 1 + 1 + 1))) (by show w.heap.size + 1 ≠ w.heap.size; omega)
    have hbi2 := hbi.set_far ⟨w.heap.size + 1, 0, none⟩ (.map (some (w.heap.size + 1 + 1 + 1))) (by show w.heap.size + 1 ≠ w.heap.size + 1 + 1; omega)
    have hM2 := hM.setFar ⟨w.heap.size + 1, 0, none⟩ (.map (some (w.heap.size + 1 + 1 + 1))) (by show w.heap.size + 1 + 1 + 1 ≠ w.heap.size + 1; omega)
    have hbl2 := hbl.setCell (p := ⟨w.heap.size + 1, 0, none⟩) (by show w.heap.size ≤ w.heap.size + 1; omega) (.map (some (w.heap.size + 1 + 1 + 1)))
    obtain ⟨W2, hW2⟩ : ∃ W2, W2 = w1.setCell ⟨w.heap.size + 1, 0, none⟩ (.map (some (w.heap.size + 1 + 1 + 1))) := ⟨_, rfl⟩
    rw [← hW2] at hv2 hbs hbi2 hM2 hbl2 ⊢
    have hs2 : W2.heap.size = w.heap.size + 1 + 1 + 1 + 1 := by rw [hW2]; simpa using hs1
    have hbb : Below W2.heap.size W2 ((W2.alloc (.cells #[.int .i64 0] 2)).alloc (.cells #[.slice (some ⟨w.heap.size + 1 + 1 + 1 + 1, 0, none⟩) 1 1] 106)) := ((Below.refl _ _).alloc (Nat.le_refl _) _).alloc (by simp) _
    refine ⟨hbs.below hbb, hv2.below hbb, hbi2.below hbb, hM2.below hbb, ⟨w.heap.size + 1 + 1 + 1 + 1, 0, 1, ?_, ?_, by omega, by omega⟩, hbl2.trans (hbb.mono hbl2.size)⟩
    · have y := vrow_new (W2.alloc (.cells #[.int .i64 0] 2)) #[.slice (some ⟨w.heap.size + 1 + 1 + 1 + 1, 0, none⟩) 1 1] 106
      rw [show (W2.alloc (.cells #[.int .i64 0] 2)).heap.size = w.heap.size + 1 + 1 + 1 + 1 + 1 by simpa using hs2] at y
      exact y
    · have z : OwnAt (w.heap.size + 1 + 1 + 1 + 1) (W2.alloc (.cells #[.int .i64 0] 2)) W2.heap.size 0 1 [0] := OwnAt.fresh (heap_alloc_new W2 _) (by omega) rfl (by unfold maxLen; omega) (by simp) (fun j hj => by simp at hj; subst hj; rfl)
      rw [hs2] at z
      exact z.below ((Below.refl _ _).alloc (Nat.le_refl _) _)
  clear hM hg hv1 hbx hbi hbl HW0
  go_upto_region 3 with fail
  go_cut [8] (fun x wd => x = .pointer (some ⟨w.heap.size + 1 + 1 + 1 + 1 + 1, 0, none⟩) ∧ ImS w wd w.heap.size (.slice (some ⟨b0, off0, none⟩) p.length cap) (.slice Ac c.length capc) (startI c.length))
  case first =>
    go_wp2_with fail
    go_meet
    exact ⟨rfl, HS.out⟩
  case rest =>
    obtain ⟨rfl, hS⟩ := hcut
    clear HS u0 u1 hz1 hs1 hup
    have HS : Hid (ImS w wc w.heap.size (.slice (some ⟨b0, off0, none⟩) p.length cap) (.slice Ac c.length capc) (startI c.length)) := hS
    clear hS
    go_wp2_with fail
    try go_step3
    go_wp2_with fail
    clear hs0 hmm
    go_loopg [5, 6] ((startI c.length).weight) (fun g s5 s6 wr => ∃ (s : IS) (z : Int), s5 = .int .i64 z ∧ s6 = .int .i64 0 ∧ IOk c.length s ∧ ImS w wr w.heap.size (.slice (some ⟨b0, off0, none⟩) p.length cap) (.slice Ac c.length capc) s ∧ s.weight ≤ g ∧ OnWay p c s)
    case atStart => exact ⟨startI c.length, 0, rfl, rfl, startI_ok hn1, HS.out, Nat.le_refl _, OnWay.start hn1⟩
    case round =>
      clear HS
      obtain ⟨s, z, rfl, rfl, hok, hS, hwg, hway⟩ := hrel
      have Hok : Hid (IOk c.length s) := hok
      have HS : Hid (ImS w wr w.heap.size (.slice (some ⟨b0, off0, none⟩) p.length cap) (.slice Ac c.length capc) s) := hS
      have Hway : Hid (s.weight ≤ gk ∧ OnWay p c s) := ⟨hwg, hway⟩
      obtain ⟨b, off, capw, hW, hO, hbn, hbG⟩ := hS.wb
      have d0 := (hW.2 0 (by simp)).1
      have d1 := (hW.2 0 (by simp)).2
      have dz := hW.1
      simp only [List.getElem_cons_zero] at d0
      have HO : Hid (OwnAt (w.heap.size + 1 + 1 + 1 + 1) wr b off capw (nats s.L)) := hO
      have HW : Hid (VRow wr (w.heap.size + 1 + 1 + 1 + 1 + 1) [.slice (some ⟨b, off, none⟩) s.L.length capw]) := hW
      have hlow := hO.low
      have hblt := hO.lt
      have h0 := (HS.out.hb.2 0 (by simp)).1
      have h1 := (HS.out.hb.2 0 (by simp)).2
      have hz := HS.out.hb.1
      simp only [List.getElem_cons_zero] at h0
      clear hok hS hwg hway hW hO
      cases hL : s.L with
      | nil =>
        rw [hL] at d0
        have HD : Hid (ArgsUp p → HRun p c (startH c.length) (.inl (hsOf c.length s).h) ∧ HUp s) := Hway.out.2.done hL
        clear hL
        go_wp2_with fail
        try rw [Exit.noGoto_ret]
        go_step
        have HV : Hid (VRow (wr.setCell ⟨w.heap.size + 1, 0, none⟩ (.map (some (w.heap.size + 1 + 1 + 1)))) (w.heap.size + 1) [.map (some (w.heap.size + 1 + 1 + 1))]) := HS.out.hb.set_at 0 _ (by simp)
        refine bodyPost_ret (v := .tuple #[.map (some (w.heap.size + 1 + 1 + 1)), .int .i64 z, .int .i64 0]) (by simp [results, Tryz.results58, go_sem, (HV.out.2 0 (by simp)).1]) rfl ?_
        exact ⟨_, _, _, rfl, HS.out.bel.setCell (by show w.heap.size ≤ w.heap.size + 1; omega) _, .inl ⟨rfl, s, Hok.out, HS.out.map.setFar _ _ (by show w.heap.size + 1 + 1 + 1 ≠ w.heap.size + 1; omega), HD.out⟩⟩
      | cons a L =>
        rw [hL] at d0 HO HW
        have HL : Hid (s.L = a :: L) := hL
        have ha := (Hok.out.has a (by rw [hL]; simp)).1
        clear hL
        have e0 := HO.out.cells 0 (by simp [nats])
        have hroom := HO.out.room
        have htop := HO.out.top
        simp only [nats, List.length_cons, List.length_map, List.map_cons] at hroom
        rw [show (nats (a :: L))[0]'(by simp [nats]) = (a : Int) from rfl, Nat.add_zero] at e0
        simp only [List.length_cons] at d0
        go_upto_region 7 with fail
        go_cut [] from 23 to 62 (fun wd => ImS w wd w.heap.size (.slice (some ⟨b0, off0, none⟩) p.length cap) (.slice Ac c.length capc) ⟨s.m, L⟩)
        case first =>
          have hO2 := HO.out.tail
          by_cases hc1 : capw = 1
          · subst hc1
            have hL0 : L = [] := by
              have : L.length = 0 := by omega
              exact List.length_eq_zero_iff.1 this
            subst hL0
            go_wp2_with fail
            go_meet
            exact HS.out.setWaits [] b off 0 0 ⟨hO2.low, hO2.lt, by simp [nats], by simp, fun j hj => by simp [nats] at hj, fun j hj => by omega⟩ hbn hbG rfl
          · have hc2 : (1 : Int) ≤ L.length + 1 := by omega
            go_wp2_with fail
            go_meet
            exact HS.out.setWaits L b (off + 1) _ _ hO2 hbn hbG rfl
        case rest =>
          clear HS d0 d1 dz HO HW hlow hblt h0 h1 hz e0 hroom htop hbn hbG
          have HS : Hid (ImS w wc w.heap.size (.slice (some ⟨b0, off0, none⟩) p.length cap) (.slice Ac c.length capc) ⟨s.m, L⟩) := hcut
          clear hcut
          obtain ⟨bc, offc, rfl, hltc, k0, k1⟩ := Hx.out.at a ha
          obtain ⟨op, A1, hop⟩ : ∃ op A1, insAt c a = (op, A1) := ⟨_, _, rfl⟩
          have hcK : c[a] = (op, A1) := by rw [← hop]; simp [insAt, List.getD, ha]
          rw [hcK, ← HS.out.bel.cell (by exact hltc)] at k0 k1
          have hltw : bc < wc.heap.size := Nat.lt_of_lt_of_le hltc HS.out.bel.size
          have Hop : Hid (insAt c a = (op, A1)) := hop
          clear hop hcK hltc
          obtain ⟨hh, Hhh⟩ : ∃ hh, Hid (hh = hOf s a) := ⟨_, rfl⟩
          have hlook := ((HS.out.below (Below.refl _ _).drew).map.look (by rw [Hok.out.len]; omega) a (by rw [Hok.out.len]; exact ha)).2
          rw [show ((({ m := s.m, L := L } : IS).m.getD a none).getD 0) = hh from Hhh.out.symm] at hlook
          have g0 := HS.out.box.at0
          have g1 := HS.out.ib.at0
          have g2 := (HS.out.hb.2 0 (by simp)).1
          simp only [List.getElem_cons_zero] at g2
          have gz := HS.out.map.lt
          have HTb : Hid (Tab wc) := Ht.out.below HS.out.bel
          have HFr : Hid (FnRow 0 wc (.slice (some ⟨b0, off0, none⟩) p.length cap) p) := Hr.out.below HS.out.bel
          go_upto_region 9 with fail
          go_cut [10, 6] from 23 to 62 (fun x y wd => x = .int .i64 (behindL p hh (op, A1)) ∧ y = .int .i64 (behindC p hh (op, A1)) ∧ ImS w wd w.heap.size (.slice (some ⟨b0, off0, none⟩) p.length cap) (.slice (some ⟨bc, offc, none⟩) c.length capc) ⟨s.m, L⟩)
          case first =>
            have HP : Hid (∀ wP, Below wc.heap.size wc wP → wP.cell? ⟨w.heap.size, 0, none⟩ = some (.slice (some ⟨b0, off0, none⟩) p.length cap) ∧ wP.cell? ⟨w.heap.size + 1 + 1, 0, none⟩ = some (.slice (some ⟨bc, offc, none⟩) c.length capc) ∧ wP.cell? ⟨bc, offc + a * 2, none⟩ = some (.int .i64 op) ∧ wP.cell? ⟨bc, offc + a * 2 + 1, none⟩ = some (.int .i64 A1) ∧ wP.cell? ⟨w.heap.size + 1, 0, none⟩ = some (.map (some (w.heap.size + 1 + 1 + 1))) ∧
                (Instr.lookup 118 (.map (some (w.heap.size + 1 + 1 + 1))) (.int .i64 a) false).run Tryz.prog wP = .ok (.int .i64 hh) wP) := fun wP hb => by
              have hS := HS.out.below hb
              have hl := (hS.map.look (by rw [Hok.out.len]; omega) a (by rw [Hok.out.len]; exact ha)).2
              rw [show ((({ m := s.m, L := L } : IS).m.getD a none).getD 0) = hh from Hhh.out.symm] at hl
              exact ⟨hS.box.at0, hS.ib.at0, by rw [hb.cell (by exact hltw)]; exact k0, by rw [hb.cell (by exact hltw)]; exact k1, (hS.hb.2 0 (by simp)).1, hl⟩
            obtain ⟨q0, q1, q2, q3, q4, q5⟩ := HP.out wc.drew (Below.refl _ _).drew
            go_region_held3 (fun w' => w'.cell? ⟨w.heap.size, 0, none⟩ = some (.slice (some ⟨b0, off0, none⟩) p.length cap) ∧ w'.cell? ⟨w.heap.size + 1 + 1, 0, none⟩ = some (.slice (some ⟨bc, offc, none⟩) c.length capc) ∧ w'.cell? ⟨bc, offc + a * 2, none⟩ = some (.int .i64 op) ∧ w'.cell? ⟨bc, offc + a * 2 + 1, none⟩ = some (.int .i64 A1) ∧ w'.cell? ⟨w.heap.size + 1, 0, none⟩ = some (.map (some (w.heap.size + 1 + 1 + 1))) ∧ (Instr.lookup 118 (.map (some (w.heap.size + 1 + 1 + 1))) (.int .i64 a) false).run Tryz.prog w' = .ok (.int .i64 hh) w')
              (first | (exact ⟨q0, q1, q2, q3, q4, q5⟩) | (exact ⟨y0, y1, y2, y3, y4, y5⟩))
              (first | (go_at_call 96; refine (implBehind _ p op A1 hh _ (HTb.out.below (Below.refl _ _).drew) (HFr.out.below (Below.refl _ _).drew)).mono ?_; rintro e wP ⟨rfl, hbP⟩
                        have hbP' := (Below.refl wc.heap.size wc).drew.trans hbP
                        obtain ⟨y0, y1, y2, y3, y4, y5⟩ := HP.out wP hbP'))
            all_goals
              go_wp2_with fail
              go_meet
              exact ⟨rfl, rfl, HS.out.below hbP'⟩
          case rest =>
            obtain ⟨rfl, rfl, hS⟩ := hcut
            clear HS hlook g0 g1 g2 gz HTb HFr k0 k1 hltw
            have HS : Hid (ImS w wc w.heap.size (.slice (some ⟨b0, off0, none⟩) p.length cap) (.slice (some ⟨bc, offc, none⟩) c.length capc) ⟨s.m, L⟩) := hS
            clear hS
            have Hto1 : Hid (∀ t ∈ goesTo a (insAt c a), 0 ≤ t ∧ t ≤ c.length) := Hto.out a ha
            by_cases hbad : badAt p hh (op, A1)
            · rw [show behindL p hh (op, A1) = 0 from if_pos hbad, show behindC p hh (op, A1) = 5 from if_pos hbad]
              have HF : Hid (ArgsUp p → HRun p c (startH c.length) (.inr (a, 5))) := Hway.out.2.fault Hok.out HL.out Hto1.out (by
                unfold turnI
                rw [Hop.out, ← Hhh.out]
                exact if_pos hbad)
              have g2 := (HS.out.hb.2 0 (by simp)).1
              have g3 := (HS.out.hb.2 0 (by simp)).2
              have gz := HS.out.hb.1
              simp only [List.getElem_cons_zero] at g2
              go_wp2_with fail
              try rw [Exit.noGoto_ret]
              go_step
              have HV : Hid (VRow (wc.setCell ⟨w.heap.size + 1, 0, none⟩ (.map (some (w.heap.size + 1 + 1 + 1)))) (w.heap.size + 1) [.map (some (w.heap.size + 1 + 1 + 1))]) := HS.out.hb.set_at 0 _ (by simp)
              refine bodyPost_ret (v := .tuple #[.map (some (w.heap.size + 1 + 1 + 1)), .int .i64 a, .int .i64 5]) (by simp [results, Tryz.results58, go_sem, (HV.out.2 0 (by simp)).1]) rfl ?_
              exact ⟨_, _, _, rfl, HS.out.bel.setCell (by show w.heap.size ≤ w.heap.size + 1; omega) _, .inr ⟨by decide, a, rfl, HF.out⟩⟩
            · rw [show behindL p hh (op, A1) = leaves p hh (op, A1) from if_neg hbad, show behindC p hh (op, A1) = 0 from if_neg hbad]
              obtain ⟨nx, Hnx⟩ : ∃ nx, Hid (nx = leaves p hh (op, A1)) := ⟨_, rfl⟩
              rw [← Hnx.out]
              have Htu : Hid (turnI p c a L s = goOnI nx (goesTo a (op, A1)) ⟨s.m, L⟩) := by
                show turnI p c a L s = _
                unfold turnI
                rw [Hop.out, ← Hhh.out, if_neg hbad, Hnx.out]
              obtain ⟨k0, k1⟩ : wc.cell? ⟨bc, offc + a * 2, none⟩ = some (.int .i64 op) ∧ wc.cell? ⟨bc, offc + a * 2 + 1, none⟩ = some (.int .i64 A1) := by
                obtain ⟨bd, offd, he, hlt, k0, k1⟩ := (Hx.out.below HS.out.bel).at a ha
                simp only [Option.some.injEq, Addr.mk.injEq, and_true] at he
                obtain ⟨rfl, rfl⟩ := he
                have hcK : c[a] = (op, A1) := by rw [← Hop.out]; simp [insAt, List.getD, ha]
                rw [hcK] at k0 k1
                exact ⟨k0, k1⟩
              have g1 := HS.out.ib.at0
              have gz := HS.out.ib.1
              clear hbad
              go_wp2_with fail
              refine (implPlaces a op A1 _ (by omega)).mono ?_
              rintro e wP ⟨vP, rfl, hI, hbP⟩
              obtain ⟨Ap, capp, rfl⟩ := hI.form
              obtain ⟨ts, Hts⟩ : ∃ ts, Hid (ts = goesTo a (op, A1)) := ⟨_, rfl⟩
              rw [← Hts.out] at hI ⊢
              have Hrng : Hid (∀ q (h : q < ts.length), 0 ≤ ts[q] ∧ ts[q] ≤ c.length) := fun q h => by
                refine Hto1.out _ ?_
                rw [Hop.out, ← Hts.out]
                exact List.getElem_mem h
              have hl2 : ts.length ≤ 2 := by rw [Hts.out]; exact goesTo_len _ _
              have hbsz := hbP.size
              have hbel0 := HS.out.map.lt
              by_cases hts0 : ts.length = 0
              · have Hti : Hid (turnI p c a L s = .inl ⟨s.m, L⟩) := by
                  show turnI p c a L s = _
                  rw [Htu.out, ← Hts.out, List.length_eq_zero_iff.1 hts0]
                  rfl
                have HSP : Hid (ImS w wP w.heap.size (.slice (some ⟨b0, off0, none⟩) p.length cap) (.slice (some ⟨bc, offc, none⟩) c.length capc) ⟨s.m, L⟩) := HS.out.below hbP
                have Hne := turnI_ok Hok.out HL.out Hto1.out Hti.out
                clear hI hbP HS k0 k1 g1 gz
                rw [hts0]
                go_wp2_with fail
                go_loopg [52, 6] 0 (fun g i y wr => i = .int .i64 0 ∧ y = .int .i64 0 ∧ wr = wP)
                case atStart => exact ⟨rfl, rfl, rfl⟩
                case round =>
                  obtain ⟨rfl, rfl, hwr⟩ := hrel
                  subst hwr
                  go_wp2_with fail
                  go_roundg (IS.weight ⟨s.m, L⟩)
                  case measure => exact Nat.lt_of_lt_of_le Hne.2 Hway.out.1
                  case rel => exact ⟨⟨s.m, L⟩, a, rfl, rfl, Hne.1, HSP.out, Nat.le_refl _, Hway.out.2.more Hok.out HL.out Hto1.out Hti.out⟩
              · obtain ⟨g, goff, rfl, hge, hgl, _⟩ := hI.at 0 (by omega)
                have HSP : Hid (ImS w wP g (.slice (some ⟨b0, off0, none⟩) p.length cap) (.slice (some ⟨bc, offc, none⟩) c.length capc) ⟨s.m, L⟩) := HS.out.other hbP g (.inl hge)
                have HI : Hid (IRow wc.heap.size wP (.slice (some ⟨g, goff, none⟩) ts.length capp) ts) := hI
                have hok0 : IOk c.length ⟨s.m, L⟩ := by
                  have hr := Hok.out.rise
                  rw [HL.out] at hr
                  exact ⟨Hok.out.len, (List.pairwise_cons.1 hr).2, fun j hj => Hok.out.has j (by rw [HL.out]; simp [hj])⟩
                have Hok0 : Hid (IOk c.length ⟨s.m, L⟩) := hok0
                obtain ⟨_, _, _, hwb, _⟩ := HS.out.wb
                have hg5 : w.heap.size + 1 + 1 + 1 + 1 + 1 < g := Nat.lt_of_lt_of_le hwb.1 hge
                have hwf : (Lit.int .i64 nx).wf = true := by rw [Hnx.out]; exact leaves_wf _ _ _
                have Hwf : Hid ((Lit.int .i64 nx).wf = true) := hwf
                clear hI hbP HS k0 k1 g1 gz hok0 hwb hwf
                go_wp2_with fail
                go_loopg [52, 6] (ts.length) (fun gg i y wr => ∃ (q : Nat) (s2 : IS), q ≤ ts.length ∧ i = .int .i64 q ∧ y = .int .i64 0 ∧ ts.length ≤ q + gg ∧ goOnI nx (ts.take q) ⟨s.m, L⟩ = .inl s2 ∧ IOk c.length s2 ∧ ImS w wr g (.slice (some ⟨b0, off0, none⟩) p.length cap) (.slice (some ⟨bc, offc, none⟩) c.length capc) s2 ∧ IRow wc.heap.size wr (.slice (some ⟨g, goff, none⟩) ts.length capp) ts)
                case atStart => exact ⟨0, ⟨s.m, L⟩, Nat.zero_le _, rfl, rfl, by omega, rfl, Hok0.out, HSP.out, HI.out⟩
                case round =>
                  clear HSP HI
                  obtain ⟨q, s2, hq, rfl, rfl, hqg, hgo2, hok2, hS2, hI2⟩ := hrel
                  have HS2 : Hid (ImS w wr g (.slice (some ⟨b0, off0, none⟩) p.length cap) (.slice (some ⟨bc, offc, none⟩) c.length capc) s2) := hS2
                  have HI2 : Hid (IRow wc.heap.size wr (.slice (some ⟨g, goff, none⟩) ts.length capp) ts) := hI2
                  have Hgo2 : Hid (goOnI nx (ts.take q) ⟨s.m, L⟩ = .inl s2) := hgo2
                  have Hok2 : Hid (IOk c.length s2) := hok2
                  clear hS2 hI2 hgo2 hok2
                  by_cases hql : q < ts.length
                  · obtain ⟨_, hgl2, ct⟩ := HI2.out.cell q hql
                    obtain ⟨tn, htn'⟩ : ∃ tn : Nat, ts[q] = (tn : Int) := ⟨ts[q].toNat, (Int.toNat_of_nonneg (Hrng.out q hql).1).symm⟩
                    have HtN : Hid (ts[q] = (tn : Int)) := htn'
                    have htn := (Hrng.out q hql).2
                    rw [htn'] at htn ct
                    clear htn'
                    go_wp2_with fail
                    have hG := implGoOn w wr g (.slice (some ⟨b0, off0, none⟩) p.length cap) (some ⟨bc, offc, none⟩) c.length capc s2 nx tn HS2.out hgl2 (by omega) (by omega) Hok2.out (by omega) (by omega) Hwf.out
                    cases hst : stepI nx tn s2 with
                    | inl s3 =>
                      rw [hst] at hG
                      refine hG.mono ?_
                      clear hG
                      rintro e w3 ⟨rfl, hS3, hh3, hs3⟩
                      have HS3 : Hid (ImS w w3 g (.slice (some ⟨b0, off0, none⟩) p.length cap) (.slice (some ⟨bc, offc, none⟩) c.length capc) s3) := hS3
                      have HI3 : Hid (IRow wc.heap.size w3 (.slice (some ⟨g, goff, none⟩) ts.length capp) ts) := HI2.out.block hs3 hh3
                      have Hst : Hid (stepI nx ts[q] s2 = .inl s3) := by
                        show stepI nx ts[q] s2 = .inl s3
                        rw [HtN.out]; exact hst
                      clear hS3 hh3 hs3 hst
                      go_wp2_with fail
                      go_roundg (gk - 1)
                      case measure => omega
                      case rel => exact ⟨q + 1, s3, by omega, by go_num, rfl, by omega, by rw [goOnI_take hql Hgo2.out, Hst.out], (stepI_ok Hok2.out (Hrng.out q hql).1 (Hrng.out q hql).2 Hst.out).1, HS3.out, HI3.out⟩
                    | inr x =>
                      rw [hst] at hG
                      refine hG.mono ?_
                      clear hG
                      rintro e w3 ⟨rfl, hS3, hh3, hs3⟩
                      have HS3 : Hid (ImS w w3 g (.slice (some ⟨b0, off0, none⟩) p.length cap) (.slice (some ⟨bc, offc, none⟩) c.length capc) s2) := hS3
                      have hx := stepI_code hst
                      have hx0 : (x != 0) = true := by simp; omega
                      have HF : Hid (ArgsUp p → HRun p c (startH c.length) (.inr (a, x))) := Hway.out.2.fault Hok.out HL.out Hto1.out (by
                        rw [Htu.out, ← Hts.out]
                        exact goOnI_take_fault hql Hgo2.out (by rw [HtN.out]; exact hst))
                      have g2 := (HS3.out.hb.2 0 (by simp)).1
                      have g3 := (HS3.out.hb.2 0 (by simp)).2
                      have gz := HS3.out.hb.1
                      simp only [List.getElem_cons_zero] at g2
                      clear hS3 hh3 hs3 hst
                      go_wp2_with fail
                      try rw [Exit.noGoto_ret]
                      go_step
                      have HV : Hid (VRow (w3.setCell ⟨w.heap.size + 1, 0, none⟩ (.map (some (w.heap.size + 1 + 1 + 1)))) (w.heap.size + 1) [.map (some (w.heap.size + 1 + 1 + 1))]) := HS3.out.hb.set_at 0 _ (by simp)
                      refine bodyPost_ret (v := .tuple #[.map (some (w.heap.size + 1 + 1 + 1)), .int .i64 a, .int .i64 x]) (by simp [results, Tryz.results58, go_sem, (HV.out.2 0 (by simp)).1]) rfl ?_
                      exact ⟨_, _, _, rfl, HS3.out.bel.setCell (by show w.heap.size ≤ w.heap.size + 1; omega) _, .inr ⟨by omega, a, rfl, HF.out⟩⟩
                  · have Hti : Hid (turnI p c a L s = .inl s2) := by
                      show turnI p c a L s = _
                      rw [Htu.out, ← Hts.out, ← Hgo2.out, List.take_of_length_le (by omega)]
                    have Hne := turnI_ok Hok.out HL.out Hto1.out Hti.out
                    go_wp2_with fail
                    go_roundg (s2.weight)
                    case measure => exact Nat.lt_of_lt_of_le Hne.2 Hway.out.1
                    case rel => exact ⟨s2, a, rfl, rfl, Hok2.out, HS2.out.other (Below.refl _ _) w.heap.size (.inr (Nat.le_refl _)), Nat.le_refl _, Hway.out.2.more Hok.out HL.out Hto1.out Hti.out⟩
end Go.Proofs.YtijgonjnmibifaaGreatDoor
