/- spec.AsmRight. -/
import Derived.Test.YtijgonjnmibifaaGreatDoorSInsA
import Derived.Test.YtijgonjnmibifaaGreatDoorAsmRI
import Derived.Test.YtijgonjnmibifaaGreatDoorSpecV
namespace Go.Proofs.YtijgonjnmibifaaGreatDoor
open Go.RowKit

theorem bare_iff {p : List FnM} {f : Int} {i : AiM} : (aiOk p f i = true ∧ i.op = 0 ∧ i.pre.length = 0) ↔ i = bareNop := by
  obtain ⟨pre, op, tg, l, t⟩ := i
  constructor
  · rintro ⟨h, h0, hp⟩
    dsimp only at h0 hp
    subst h0
    have hp' : pre = [] := List.length_eq_zero_iff.1 hp
    subst hp'
    simp [aiOk, fieldsOk] at h
    obtain ⟨-, h1, h2, h3⟩ := h
    subst h1 h2 h3
    rfl
  · intro h
    simp only [bareNop, AiM.mk.injEq] at h
    obtain ⟨rfl, rfl, rfl, rfl, rfl⟩ := h
    refine ⟨?_, rfl, rfl⟩
    simp [aiOk, fieldsOk]

/-- what the spec asks at a place comes to the same -/
theorem place_same {p : List FnM} {f h : Int} {i : AiM} {m : List (Int × Int)} : placeOk p f h i m = true ↔ aiOk p f i = true ∧ ¬ (h < 0 ∧ (i.op ≠ 0 ∨ 0 < i.pre.length)) ∧ (m.length : Int) = (if 0 ≤ h then (fnAt p f).locals + h else 0) ∧ m.all valOk = true := by
  unfold placeOk
  by_cases hh : h < 0
  · rw [if_pos hh, if_neg (show ¬ 0 ≤ h by omega)]
    simp only [Bool.and_eq_true, decide_eq_true_eq]
    rw [← bare_iff (p := p) (f := f)]
    constructor
    · rintro ⟨⟨h1, h2, h3⟩, h4⟩
      have hm : m = [] := List.length_eq_zero_iff.1 h4
      subst hm
      exact ⟨h1, by omega, rfl, rfl⟩
    · rintro ⟨h1, h2, h3, h4⟩
      exact ⟨⟨h1, by omega, by omega⟩, by omega⟩
  · rw [if_neg hh, if_pos (show 0 ≤ h by omega)]
    simp only [Bool.and_eq_true, mapOk, decide_eq_true_eq]
    constructor
    · rintro ⟨h1, h2, h3⟩; exact ⟨h1, fun h => hh h.1, h2, h3⟩
    · rintro ⟨h1, _, h2, h3⟩; exact ⟨h1, h2, h3⟩

set_option maxRecDepth 100000 in
set_option maxHeartbeats 12800000 in
theorem specAsm (v x y : Value) (p : List FnM) (a : AsM) (w : World) (hr : FnRow 0 w v p) (hp : ∀ g ∈ p, g.ok) (ha : AsRow 0 w x y a) :
    Calls Tryz.prog 22 #[.agg #[v], asV x y a] w fun e w' => AsmTold p a w w' e := by
  have Hr : Hid (FnRow 0 w v p) := hr
  have Hp : Hid (∀ g ∈ p, g.ok) := hp
  have Ha : Hid (AsRow 0 w x y a) := ha
  have hlen := hr.len
  have hlc := ha.1.len
  have hlm := ha.2.len
  obtain ⟨A, cap, rfl⟩ := hr.form
  obtain ⟨C, cac, rfl⟩ := ha.1.form
  obtain ⟨D, dap, rfl⟩ := ha.2.form
  clear hr hp ha
  unfold asV
  obtain ⟨x0, x1, x2⟩ := boxes_new w #[.slice A p.length cap] #[.int .i64 a.func, .slice C a.code.length cac, .slice D a.maps.length dap] 34 39
  obtain ⟨W0, HW0⟩ : ∃ W0, Hid (W0 = (w.alloc (.cells #[.slice A p.length cap] 34)).alloc (.cells #[.int .i64 a.func, .slice C a.code.length cac, .slice D a.maps.length dap] 39)) := ⟨_, rfl⟩
  rw [← HW0.out] at x0 x1 x2
  have X0 : Hid (Box W0 w.heap.size #[.slice A p.length cap]) := x0
  have X1 : Hid (AsBox W0 (w.heap.size + 1) (.slice C a.code.length cac) (.slice D a.maps.length dap) a) := x1
  have HB0 : Hid (Below w.heap.size w W0) := x2
  clear x0 x1 x2
  have HIS : Hid (∀ w', Below W0.heap.size W0 w' → Calls Tryz.prog 49 #[.agg #[.slice A p.length cap], .int .i64 a.func] w' fun e w'' => ∃ b : Bool, e = .returned (.bool b) ∧ Below w'.heap.size w' w'' ∧ (b = true ↔ RightP p ∧ inL a.func p.length = true)) := fun w' h =>
    specIs _ p a.func w' ((Hr.out.below HB0.out).below h) Hp.out
  by_cases hR : RightP p ∧ inL a.func p.length = true
  case neg =>
    have HF : Hid (SaysAsm p a false) := asmIs_out hR
    have HS : Hid (∀ w', Below W0.heap.size W0 w' → w'.cell? ⟨w.heap.size, 0, none⟩ = some (.slice A p.length cap) ∧ w'.cell? ⟨w.heap.size + 1, 0, none⟩ = some (.int .i64 a.func) ∧ w'.cell? ⟨w.heap.size + 1, 1, none⟩ = some (.slice C a.code.length cac) ∧ w'.cell? ⟨w.heap.size + 1, 2, none⟩ = some (.slice D a.maps.length dap)) := fun w' h => by
      have k0 := X0.out.below h
      obtain ⟨-, b0, b1, b2⟩ := (X1.out.below h).cells
      exact ⟨k0.at0, b0, b1, b2⟩
    go_enter Tryz.func22, Tryz.ntmps22
    go_upto_region 1 with fail
    rw [← HW0.out]
    go_cut [38] (fun q wc => q = .bool true ∧ Below W0.heap.size W0 wc)
    case first =>
        have hb0 : Below W0.heap.size W0 W0.drew := (Below.refl _ _).drew
        refine wp_region_held_drew (S := fun w' => w'.cell? ⟨w.heap.size, 0, none⟩ = some (.slice A p.length cap) ∧ w'.cell? ⟨w.heap.size + 1, 0, none⟩ = some (.int .i64 a.func) ∧ w'.cell? ⟨w.heap.size + 1, 1, none⟩ = some (.slice C a.code.length cac) ∧ w'.cell? ⟨w.heap.size + 1, 2, none⟩ = some (.slice D a.maps.length dap)) (by kernel_rfl) (HS.out _ hb0) (fun hHeld => ?_)
        refine wpAnyH_take (i := 0) (v := ?va1) rfl (by kernel_rfl) (by kernel_rfl) (by kernel_rfl) (fun _ _ _ h => h) (Or.inl ⟨by rfl, ?ha1⟩) (by assumption) ?ra1
        case ha1 => (intro wS hSw; (try dsimp only at hSw); go_simp; try with_reducible rfl)
        case ra1 =>
          try simp only [Act.put, List.setIfInBounds_toArray, List.set_cons_zero, List.set_cons_succ, List.getElem_toArray, List.getElem_cons_zero]
          refine wpAnyH_take (i := 1) (v := ?va2) rfl (by kernel_rfl) (by kernel_rfl) (by kernel_rfl) (fun _ _ _ h => h) (Or.inl ⟨by rfl, ?ha2⟩) (by assumption) ?ra2
          case ha2 => (intro wS hSw; (try dsimp only at hSw); go_simp; try with_reducible rfl)
          case ra2 =>
            try simp only [Act.put, List.setIfInBounds_toArray, List.set_cons_zero, List.set_cons_succ, List.getElem_toArray, List.getElem_cons_succ, List.getElem_cons_zero]
            refine wpAnyH_take (i := 2) (v := ?va3) rfl (by kernel_rfl) (by kernel_rfl) (by kernel_rfl) (fun _ _ _ h => h) (Or.inl ⟨by rfl, ?ha3⟩) (by assumption) ?ra3
            case ha3 => (intro wS hSw; (try dsimp only at hSw); go_simp; try with_reducible rfl)
            case ra3 =>
              try simp only [Act.put, List.setIfInBounds_toArray, List.set_cons_zero, List.set_cons_succ, List.getElem_toArray, List.getElem_cons_succ, List.getElem_cons_zero]
              refine wpAnyH_ready (rs := [3]) (by kernel_rfl) (by simp) ?_
              refine AllReadyH.cons rfl (fun K hK => ?_) AllReadyH.nil
              go_simp
              refine (HIS.out _ hb0).mono ?_
              rintro e wQ ⟨b, rfl, hbQ0, hiff⟩
              have hbQ : Below W0.heap.size W0 wQ := hb0.trans hbQ0
              obtain rfl : b = false := (by rw [Bool.eq_false_iff]; exact fun h => hR (hiff.1 h))
              clear hiff
              go_wp2_with fail
              refine hK.out _ _ ?_ (fun hHelda4 => ?_)
              · exact HS.out wQ hbQ
              clear hK K
              try simp only [Act.put, List.setIfInBounds_toArray, List.set_cons_zero, List.set_cons_succ, List.getElem_toArray, List.getElem_cons_succ, List.getElem_cons_zero]
              refine wpAnyH_take (i := 4) (v := ?va5) rfl (by kernel_rfl) (by kernel_rfl) (by kernel_rfl) (fun _ _ _ h => h) (Or.inl ⟨by rfl, ?ha5⟩) (by assumption) ?ra5
              case ha5 => (intro wS hSw; (try dsimp only at hSw); go_simp; try with_reducible rfl)
              case ra5 =>
                try simp only [Act.put, List.setIfInBounds_toArray, List.set_cons_zero, List.set_cons_succ, List.getElem_toArray, List.getElem_cons_succ, List.getElem_cons_zero]
                refine wpAnyH_take (i := 5) (v := ?va6) rfl (by kernel_rfl) (by kernel_rfl) (by kernel_rfl) (fun _ _ _ h => h) (Or.inl ⟨by rfl, ?ha6⟩) (by assumption) ?ra6
                case ha6 => (intro wS hSw; (try dsimp only at hSw); go_simp; try with_reducible rfl)
                case ra6 =>
                  try simp only [Act.put, List.setIfInBounds_toArray, List.set_cons_zero, List.set_cons_succ, List.getElem_toArray, List.getElem_cons_succ, List.getElem_cons_zero]
                  refine wpAnyH_take (i := 6) (v := undef) rfl (by kernel_rfl) (by kernel_rfl) (by kernel_rfl) (fun _ _ _ h => h) (Or.inr ⟨by rfl, rfl⟩) (by assumption) ?ra7
                  case ra7 =>
                    try simp only [Act.put, List.setIfInBounds_toArray, List.set_cons_zero, List.set_cons_succ, List.getElem_toArray, List.getElem_cons_succ, List.getElem_cons_zero]
                    refine wpAnyH_take (i := 7) (v := undef) rfl (by kernel_rfl) (by kernel_rfl) (by kernel_rfl) (fun _ _ _ h => h) (Or.inr ⟨by rfl, rfl⟩) (by assumption) ?ra8
                    case ra8 =>
                      try simp only [Act.put, List.setIfInBounds_toArray, List.set_cons_zero, List.set_cons_succ, List.getElem_toArray, List.getElem_cons_succ, List.getElem_cons_zero]
                      refine wpAnyH_take (i := 8) (v := undef) rfl (by kernel_rfl) (by kernel_rfl) (by kernel_rfl) (fun _ _ _ h => h) (Or.inr ⟨by rfl, rfl⟩) (by assumption) ?ra9
                      case ra9 =>
                        try simp only [Act.put, List.setIfInBounds_toArray, List.set_cons_zero, List.set_cons_succ, List.getElem_toArray, List.getElem_cons_succ, List.getElem_cons_zero]
                        refine wpAnyH_take (i := 9) (v := undef) rfl (by kernel_rfl) (by kernel_rfl) (by kernel_rfl) (fun _ _ _ h => h) (Or.inr ⟨by rfl, rfl⟩) (by assumption) ?ra10
                        case ra10 =>
                          try simp only [Act.put, List.setIfInBounds_toArray, List.set_cons_zero, List.set_cons_succ, List.getElem_toArray, List.getElem_cons_succ, List.getElem_cons_zero]
                          refine wpAnyH_take (i := 10) (v := undef) rfl (by kernel_rfl) (by kernel_rfl) (by kernel_rfl) (fun _ _ _ h => h) (Or.inr ⟨by rfl, rfl⟩) (by assumption) ?ra11
                          case ra11 =>
                            try simp only [Act.put, List.setIfInBounds_toArray, List.set_cons_zero, List.set_cons_succ, List.getElem_toArray, List.getElem_cons_succ, List.getElem_cons_zero]
                            refine wpAnyH_take (i := 11) (v := undef) rfl (by kernel_rfl) (by kernel_rfl) (by kernel_rfl) (fun _ _ _ h => h) (Or.inr ⟨by rfl, rfl⟩) (by assumption) ?ra12
                            case ra12 =>
                              try simp only [Act.put, List.setIfInBounds_toArray, List.set_cons_zero, List.set_cons_succ, List.getElem_toArray, List.getElem_cons_succ, List.getElem_cons_zero]
                              refine wpAnyH_take (i := 12) (v := undef) rfl (by kernel_rfl) (by kernel_rfl) (by kernel_rfl) (fun _ _ _ h => h) (Or.inr ⟨by rfl, rfl⟩) (by assumption) ?ra13
                              case ra13 =>
                                try simp only [Act.put, List.setIfInBounds_toArray, List.set_cons_zero, List.set_cons_succ, List.getElem_toArray, List.getElem_cons_succ, List.getElem_cons_zero]
                                refine wpAnyH_take (i := 13) (v := undef) rfl (by kernel_rfl) (by kernel_rfl) (by kernel_rfl) (fun _ _ _ h => h) (Or.inr ⟨by rfl, rfl⟩) (by assumption) ?ra14
                                case ra14 =>
                                  try simp only [Act.put, List.setIfInBounds_toArray, List.set_cons_zero, List.set_cons_succ, List.getElem_toArray, List.getElem_cons_succ, List.getElem_cons_zero]
                                  refine wpAnyH_take (i := 14) (v := undef) rfl (by kernel_rfl) (by kernel_rfl) (by kernel_rfl) (fun _ _ _ h => h) (Or.inr ⟨by rfl, rfl⟩) (by assumption) ?ra15
                                  case ra15 =>
                                    try simp only [Act.put, List.setIfInBounds_toArray, List.set_cons_zero, List.set_cons_succ, List.getElem_toArray, List.getElem_cons_succ, List.getElem_cons_zero]
                                    refine wpAnyH_take (i := 15) (v := undef) rfl (by kernel_rfl) (by kernel_rfl) (by kernel_rfl) (fun _ _ _ h => h) (Or.inr ⟨by rfl, rfl⟩) (by assumption) ?ra16
                                    case ra16 =>
                                      try simp only [Act.put, List.setIfInBounds_toArray, List.set_cons_zero, List.set_cons_succ, List.getElem_toArray, List.getElem_cons_succ, List.getElem_cons_zero]
                                      refine wpAnyH_take (i := 16) (v := undef) rfl (by kernel_rfl) (by kernel_rfl) (by kernel_rfl) (fun _ _ _ h => h) (Or.inr ⟨by rfl, rfl⟩) (by assumption) ?ra17
                                      case ra17 =>
                                        try simp only [Act.put, List.setIfInBounds_toArray, List.set_cons_zero, List.set_cons_succ, List.getElem_toArray, List.getElem_cons_succ, List.getElem_cons_zero]
                                        refine wpAnyH_take (i := 17) (v := undef) rfl (by kernel_rfl) (by kernel_rfl) (by kernel_rfl) (fun _ _ _ h => h) (Or.inr ⟨by rfl, rfl⟩) (by assumption) ?ra18
                                        case ra18 =>
                                          try simp only [Act.put, List.setIfInBounds_toArray, List.set_cons_zero, List.set_cons_succ, List.getElem_toArray, List.getElem_cons_succ, List.getElem_cons_zero]
                                          refine wpAnyH_take (i := 18) (v := ?va19) rfl (by kernel_rfl) (by kernel_rfl) (by kernel_rfl) (fun _ _ _ h => h) (Or.inl ⟨by rfl, ?ha19⟩) (by assumption) ?ra19
                                          case ha19 => (intro wS hSw; (try dsimp only at hSw); go_simp; try with_reducible rfl)
                                          case ra19 =>
                                            try simp only [Act.put, List.setIfInBounds_toArray, List.set_cons_zero, List.set_cons_succ, List.getElem_toArray, List.getElem_cons_succ, List.getElem_cons_zero]
                                            refine wpAnyH_take (i := 19) (v := ?va20) rfl (by kernel_rfl) (by kernel_rfl) (by kernel_rfl) (fun _ _ _ h => h) (Or.inl ⟨by rfl, ?ha20⟩) (by assumption) ?ra20
                                            case ha20 => (intro wS hSw; (try dsimp only at hSw); go_simp; try with_reducible rfl)
                                            case ra20 =>
                                              try simp only [Act.put, List.setIfInBounds_toArray, List.set_cons_zero, List.set_cons_succ, List.getElem_toArray, List.getElem_cons_succ, List.getElem_cons_zero]
                                              refine wpAnyH_take (i := 20) (v := undef) rfl (by kernel_rfl) (by kernel_rfl) (by kernel_rfl) (fun _ _ _ h => h) (Or.inr ⟨by rfl, rfl⟩) (by assumption) ?ra21
                                              case ra21 =>
                                                try simp only [Act.put, List.setIfInBounds_toArray, List.set_cons_zero, List.set_cons_succ, List.getElem_toArray, List.getElem_cons_succ, List.getElem_cons_zero]
                                                refine wpAnyH_take (i := 21) (v := undef) rfl (by kernel_rfl) (by kernel_rfl) (by kernel_rfl) (fun _ _ _ h => h) (Or.inr ⟨by rfl, rfl⟩) (by assumption) ?ra22
                                                case ra22 =>
                                                  try simp only [Act.put, List.setIfInBounds_toArray, List.set_cons_zero, List.set_cons_succ, List.getElem_toArray, List.getElem_cons_succ, List.getElem_cons_zero]
                                                  refine wpAnyH_take (i := 22) (v := undef) rfl (by kernel_rfl) (by kernel_rfl) (by kernel_rfl) (fun _ _ _ h => h) (Or.inr ⟨by rfl, rfl⟩) (by assumption) ?ra23
                                                  case ra23 =>
                                                    try simp only [Act.put, List.setIfInBounds_toArray, List.set_cons_zero, List.set_cons_succ, List.getElem_toArray, List.getElem_cons_succ, List.getElem_cons_zero]
                                                    refine wpAnyH_take (i := 23) (v := undef) rfl (by kernel_rfl) (by kernel_rfl) (by kernel_rfl) (fun _ _ _ h => h) (Or.inr ⟨by rfl, rfl⟩) (by assumption) ?ra24
                                                    case ra24 =>
                                                      try simp only [Act.put, List.setIfInBounds_toArray, List.set_cons_zero, List.set_cons_succ, List.getElem_toArray, List.getElem_cons_succ, List.getElem_cons_zero]
                                                      refine wpAnyH_take (i := 24) (v := undef) rfl (by kernel_rfl) (by kernel_rfl) (by kernel_rfl) (fun _ _ _ h => h) (Or.inr ⟨by rfl, rfl⟩) (by assumption) ?ra25
                                                      case ra25 =>
                                                        try simp only [Act.put, List.setIfInBounds_toArray, List.set_cons_zero, List.set_cons_succ, List.getElem_toArray, List.getElem_cons_succ, List.getElem_cons_zero]
                                                        refine wpAnyH_take (i := 25) (v := undef) rfl (by kernel_rfl) (by kernel_rfl) (by kernel_rfl) (fun _ _ _ h => h) (Or.inr ⟨by rfl, rfl⟩) (by assumption) ?ra26
                                                        case ra26 =>
                                                          try simp only [Act.put, List.setIfInBounds_toArray, List.set_cons_zero, List.set_cons_succ, List.getElem_toArray, List.getElem_cons_succ, List.getElem_cons_zero]
                                                          refine wpAnyH_take (i := 26) (v := undef) rfl (by kernel_rfl) (by kernel_rfl) (by kernel_rfl) (fun _ _ _ h => h) (Or.inr ⟨by rfl, rfl⟩) (by assumption) ?ra27
                                                          case ra27 =>
                                                            try simp only [Act.put, List.setIfInBounds_toArray, List.set_cons_zero, List.set_cons_succ, List.getElem_toArray, List.getElem_cons_succ, List.getElem_cons_zero]
                                                            refine wpAnyH_take (i := 27) (v := ?va28) rfl (by kernel_rfl) (by kernel_rfl) (by kernel_rfl) (fun _ _ _ h => h) (Or.inl ⟨by rfl, ?ha28⟩) (by assumption) ?ra28
                                                            case ha28 => (intro wS hSw; (try dsimp only at hSw); go_simp; try with_reducible rfl)
                                                            case ra28 =>
                                                              try simp only [Act.put, List.setIfInBounds_toArray, List.set_cons_zero, List.set_cons_succ, List.getElem_toArray, List.getElem_cons_succ, List.getElem_cons_zero]
                                                              refine wpAnyH_done (by kernel_rfl) ?_ _
                                                              go_wp2_with fail
                                                              go_meet
                                                              exact ⟨rfl, hbQ⟩
    obtain ⟨rfl, hwc⟩ := hcut
    have Hwc : Hid (Below W0.heap.size W0 wc) := hwc
    clear hwc
    go_wp2_with fail
    go_ret
    exact ⟨false, rfl, HB0.out.trans (Hwc.out.mono HB0.out.size), HF.out⟩
  have HR0 : Hid (RightP p ∧ inL a.func p.length = true) := hR
  obtain ⟨hright, hin⟩ := hR
  have hin' : 0 ≤ a.func ∧ a.func < p.length := by simpa [inL] using hin
  obtain ⟨f, hf⟩ := Int.eq_ofNat_of_zero_le hin'.1
  have hk : f < p.length := by omega
  obtain ⟨hs, hrun, hl1, hl2, _, h08, _⟩ := hright.heights f hk
  have hfn := fnAt_nat p f hk
  obtain ⟨hfo, hall, _⟩ := ((hright.all).2.2 f hk).well rfl
  have hform : 1 ≤ (fnAt p f).code.length ∧ (fnAt p f).code.length ≤ 60 ∧ 0 ≤ (fnAt p f).locals ∧ (fnAt p f).locals ≤ 8 := by simp [formOk] at hfo; omega
  have Harg : Hid (ArgsOk p) := hright.args
  have Hafu : Hid (a.func = (f : Int)) := hf
  rw [Hafu.out] at hin
  obtain ⟨c, hc⟩ : ∃ c, c = p[f].code := ⟨_, rfl⟩
  have hcf : (fnAt p f).code = c := by rw [hfn, hc]
  obtain ⟨L, hL⟩ : ∃ L, L = p[f].locals := ⟨_, rfl⟩
  have hLf : (fnAt p f).locals = L := by rw [hfn, hL]
  rw [hcf] at hrun hl1 hall hform
  rw [hLf] at hform
  have Hin : Hid (inL (f : Int) p.length = true) := hin
  have Hcf : Hid ((fnAt p f).code = c) := hcf
  have Hrun : Hid (HRun p c (startH c.length) (.inl hs)) := hrun
  have Hr08 : Hid (∀ j, j < c.length → hs.getD j 0 = -1 ∨ (0 ≤ hs.getD j 0 ∧ hs.getD j 0 ≤ 8)) := fun j hj => h08 j (by rw [hl1]; exact hj)
  have HL : Hid ((fnAt p f).locals = L) := hLf
  have HLr : Hid (0 ≤ L ∧ L ≤ 8) := ⟨hform.2.2.1, hform.2.2.2⟩
  have hcl : 1 ≤ c.length ∧ c.length ≤ 60 := ⟨hform.1, hform.2.1⟩
  have Hto : Hid (∀ j, j < c.length → ∀ t ∈ goesTo j (insAt c j), 0 ≤ t ∧ t ≤ c.length) := goesTo_range (p := p) (f := f) hcf.symm hall
  have Hhl : Hid (hs.length = c.length) := hl1
  obtain ⟨bf, offf, xf, rfl, hltf, -, e1, e2, hxf⟩ := (Hr.out.below HB0.out).at f hk
  obtain ⟨Ac, capc, rfl⟩ := hxf.form
  rw [← hc] at e2
  rw [← hL] at e1
  have Hcp : Hid (c = p[f].code) := hc
  rw [hf] at HIS
  have HS : Hid (∀ w', Below W0.heap.size W0 w' → w'.cell? ⟨w.heap.size, 0, none⟩ = some (.slice (some ⟨bf, offf, none⟩) p.length cap) ∧ w'.cell? ⟨w.heap.size + 1, 0, none⟩ = some (.int .i64 (f : Int)) ∧ w'.cell? ⟨w.heap.size + 1, 1, none⟩ = some (.slice C a.code.length cac) ∧ w'.cell? ⟨w.heap.size + 1, 2, none⟩ = some (.slice D a.maps.length dap) ∧ w'.cell? ⟨bf, offf + f * 3 + 2, none⟩ = some (.slice Ac c.length capc)) := fun w' h => by
    have k0 := X0.out.below h
    obtain ⟨-, b0, b1, b2⟩ := (X1.out.below h).cells
    exact ⟨k0.at0, by rw [← Hafu.out]; exact b0, b1, b2, by rw [h.cell (by exact hltf)]; exact e2⟩
  have HE1 : Hid (∀ w', Below W0.heap.size W0 w' → w'.cell? ⟨bf, offf + f * 3 + 1, none⟩ = some (.int .i64 L) ∧ bf < w'.heap.size) := fun w' h => ⟨by rw [h.cell (by exact hltf)]; exact e1, Nat.lt_of_lt_of_le hltf h.size⟩
  have hfi : (0 : Int) ≤ (f : Int) := by omega
  have hfl : (f : Int) < (p.length : Int) := by omega
  clear hright hin hin' hfn hfo hall hcf hrun hc hL hLf hform hl1 hl2 h08 hxf e1 e2 hltf hf
  by_cases hlen1 : a.code.length = c.length
  case neg =>
    have hne : ((a.code.length : Int) != (c.length : Int)) = true := by simpa using (show ¬ (a.code.length : Int) = (c.length : Int) by omega)
    have HF : Hid (SaysAsm p a false) := asmIs_len (fun h => hlen1 (by rw [h.1, Hafu.out, Hcf.out]))
    clear hlen1
    go_enter Tryz.func22, Tryz.ntmps22
    go_upto_region 1 with fail
    rw [← HW0.out]
    go_cut [38] (fun q wc => q = .bool true ∧ Below W0.heap.size W0 wc)
    case first =>
        have hb0 : Below W0.heap.size W0 W0.drew := (Below.refl _ _).drew
        refine wp_region_held_drew (S := fun w' => w'.cell? ⟨w.heap.size, 0, none⟩ = some (.slice (some ⟨bf, offf, none⟩) p.length cap) ∧ w'.cell? ⟨w.heap.size + 1, 0, none⟩ = some (.int .i64 (f : Int)) ∧ w'.cell? ⟨w.heap.size + 1, 1, none⟩ = some (.slice C a.code.length cac) ∧ w'.cell? ⟨w.heap.size + 1, 2, none⟩ = some (.slice D a.maps.length dap) ∧ w'.cell? ⟨bf, offf + f * 3 + 2, none⟩ = some (.slice Ac c.length capc)) (by kernel_rfl) (HS.out _ hb0) (fun hHeld => ?_)
        refine wpAnyH_take (i := 0) (v := ?vb1) rfl (by kernel_rfl) (by kernel_rfl) (by kernel_rfl) (fun _ _ _ h => h) (Or.inl ⟨by rfl, ?hb1⟩) (by assumption) ?rb1
        case hb1 => (intro wS hSw; (try dsimp only at hSw); go_simp; try with_reducible rfl)
        case rb1 =>
          try simp only [Act.put, List.setIfInBounds_toArray, List.set_cons_zero, List.set_cons_succ, List.getElem_toArray, List.getElem_cons_zero]
          refine wpAnyH_take (i := 1) (v := ?vb2) rfl (by kernel_rfl) (by kernel_rfl) (by kernel_rfl) (fun _ _ _ h => h) (Or.inl ⟨by rfl, ?hb2⟩) (by assumption) ?rb2
          case hb2 => (intro wS hSw; (try dsimp only at hSw); go_simp; try with_reducible rfl)
          case rb2 =>
            try simp only [Act.put, List.setIfInBounds_toArray, List.set_cons_zero, List.set_cons_succ, List.getElem_toArray, List.getElem_cons_succ, List.getElem_cons_zero]
            refine wpAnyH_take (i := 2) (v := ?vb3) rfl (by kernel_rfl) (by kernel_rfl) (by kernel_rfl) (fun _ _ _ h => h) (Or.inl ⟨by rfl, ?hb3⟩) (by assumption) ?rb3
            case hb3 => (intro wS hSw; (try dsimp only at hSw); go_simp; try with_reducible rfl)
            case rb3 =>
              try simp only [Act.put, List.setIfInBounds_toArray, List.set_cons_zero, List.set_cons_succ, List.getElem_toArray, List.getElem_cons_succ, List.getElem_cons_zero]
              refine wpAnyH_ready (rs := [3]) (by kernel_rfl) (by simp) ?_
              refine AllReadyH.cons rfl (fun K hK => ?_) AllReadyH.nil
              go_simp
              refine (HIS.out _ hb0).mono ?_
              rintro e wQ ⟨b, rfl, hbQ0, hiff⟩
              have hbQ : Below W0.heap.size W0 wQ := hb0.trans hbQ0
              obtain rfl : b = true := (hiff.2 ⟨HR0.out.1, Hin.out⟩)
              clear hiff
              go_wp2_with fail
              refine hK.out _ _ ?_ (fun hHeldb4 => ?_)
              · exact HS.out wQ hbQ
              clear hK K
              try simp only [Act.put, List.setIfInBounds_toArray, List.set_cons_zero, List.set_cons_succ, List.getElem_toArray, List.getElem_cons_succ, List.getElem_cons_zero]
              refine wpAnyH_take (i := 4) (v := ?vb5) rfl (by kernel_rfl) (by kernel_rfl) (by kernel_rfl) (fun _ _ _ h => h) (Or.inl ⟨by rfl, ?hb5⟩) (by assumption) ?rb5
              case hb5 => (intro wS hSw; (try dsimp only at hSw); go_simp; try with_reducible rfl)
              case rb5 =>
                try simp only [Act.put, List.setIfInBounds_toArray, List.set_cons_zero, List.set_cons_succ, List.getElem_toArray, List.getElem_cons_succ, List.getElem_cons_zero]
                refine wpAnyH_take (i := 5) (v := ?vb6) rfl (by kernel_rfl) (by kernel_rfl) (by kernel_rfl) (fun _ _ _ h => h) (Or.inl ⟨by rfl, ?hb6⟩) (by assumption) ?rb6
                case hb6 => (intro wS hSw; (try dsimp only at hSw); go_simp; try with_reducible rfl)
                case rb6 =>
                  try simp only [Act.put, List.setIfInBounds_toArray, List.set_cons_zero, List.set_cons_succ, List.getElem_toArray, List.getElem_cons_succ, List.getElem_cons_zero]
                  refine wpAnyH_take (i := 6) (v := ?vb7) rfl (by kernel_rfl) (by kernel_rfl) (by kernel_rfl) (fun _ _ _ h => h) (Or.inl ⟨by rfl, ?hb7⟩) (by assumption) ?rb7
                  case hb7 => (intro wS hSw; (try dsimp only at hSw); go_simp; try with_reducible rfl)
                  case rb7 =>
                    try simp only [Act.put, List.setIfInBounds_toArray, List.set_cons_zero, List.set_cons_succ, List.getElem_toArray, List.getElem_cons_succ, List.getElem_cons_zero]
                    refine wpAnyH_take (i := 7) (v := ?vb8) rfl (by kernel_rfl) (by kernel_rfl) (by kernel_rfl) (fun _ _ _ h => h) (Or.inl ⟨by rfl, ?hb8⟩) (by assumption) ?rb8
                    case hb8 => (intro wS hSw; (try dsimp only at hSw); go_simp; try with_reducible rfl)
                    case rb8 =>
                      try simp only [Act.put, List.setIfInBounds_toArray, List.set_cons_zero, List.set_cons_succ, List.getElem_toArray, List.getElem_cons_succ, List.getElem_cons_zero]
                      refine wpAnyH_take (i := 8) (v := ?vb9) rfl (by kernel_rfl) (by kernel_rfl) (by kernel_rfl) (fun _ _ _ h => h) (Or.inl ⟨by rfl, ?hb9⟩) (by assumption) ?rb9
                      case hb9 => (intro wS hSw; (try dsimp only at hSw); go_simp; try with_reducible rfl)
                      case rb9 =>
                        try simp only [Act.put, List.setIfInBounds_toArray, List.set_cons_zero, List.set_cons_succ, List.getElem_toArray, List.getElem_cons_succ, List.getElem_cons_zero]
                        refine wpAnyH_take (i := 9) (v := ?vb10) rfl (by kernel_rfl) (by kernel_rfl) (by kernel_rfl) (fun _ _ _ h => h) (Or.inl ⟨by rfl, ?hb10⟩) (by assumption) ?rb10
                        case hb10 => (intro wS hSw; (try dsimp only at hSw); go_simp; try with_reducible rfl)
                        case rb10 =>
                          try simp only [Act.put, List.setIfInBounds_toArray, List.set_cons_zero, List.set_cons_succ, List.getElem_toArray, List.getElem_cons_succ, List.getElem_cons_zero]
                          refine wpAnyH_take (i := 10) (v := ?vb11) rfl (by kernel_rfl) (by kernel_rfl) (by kernel_rfl) (fun _ _ _ h => h) (Or.inl ⟨by rfl, ?hb11⟩) (by assumption) ?rb11
                          case hb11 => (intro wS hSw; (try dsimp only at hSw); go_simp; try with_reducible rfl)
                          case rb11 =>
                            try simp only [Act.put, List.setIfInBounds_toArray, List.set_cons_zero, List.set_cons_succ, List.getElem_toArray, List.getElem_cons_succ, List.getElem_cons_zero]
                            refine wpAnyH_take (i := 11) (v := ?vb12) rfl (by kernel_rfl) (by kernel_rfl) (by kernel_rfl) (fun _ _ _ h => h) (Or.inl ⟨by rfl, ?hb12⟩) (by assumption) ?rb12
                            case hb12 => (intro wS hSw; (try dsimp only at hSw); go_simp; try with_reducible rfl)
                            case rb12 =>
                              try simp only [Act.put, List.setIfInBounds_toArray, List.set_cons_zero, List.set_cons_succ, List.getElem_toArray, List.getElem_cons_succ, List.getElem_cons_zero]
                              refine wpAnyH_take (i := 12) (v := ?vb13) rfl (by kernel_rfl) (by kernel_rfl) (by kernel_rfl) (fun _ _ _ h => h) (Or.inl ⟨by rfl, ?hb13⟩) (by assumption) ?rb13
                              case hb13 => (intro wS hSw; (try dsimp only at hSw); go_simp; try with_reducible rfl)
                              case rb13 =>
                                try simp only [Act.put, List.setIfInBounds_toArray, List.set_cons_zero, List.set_cons_succ, List.getElem_toArray, List.getElem_cons_succ, List.getElem_cons_zero]
                                refine wpAnyH_take (i := 13) (v := ?vb14) rfl (by kernel_rfl) (by kernel_rfl) (by kernel_rfl) (fun _ _ _ h => h) (Or.inl ⟨by rfl, ?hb14⟩) (by assumption) ?rb14
                                case hb14 => (intro wS hSw; (try dsimp only at hSw); go_simp; try with_reducible rfl)
                                case rb14 =>
                                  try simp only [Act.put, List.setIfInBounds_toArray, List.set_cons_zero, List.set_cons_succ, List.getElem_toArray, List.getElem_cons_succ, List.getElem_cons_zero]
                                  refine wpAnyH_take (i := 14) (v := ?vb15) rfl (by kernel_rfl) (by kernel_rfl) (by kernel_rfl) (fun _ _ _ h => h) (Or.inl ⟨by rfl, ?hb15⟩) (by assumption) ?rb15
                                  case hb15 => (intro wS hSw; (try dsimp only at hSw); go_simp; try with_reducible rfl)
                                  case rb15 =>
                                    try simp only [Act.put, List.setIfInBounds_toArray, List.set_cons_zero, List.set_cons_succ, List.getElem_toArray, List.getElem_cons_succ, List.getElem_cons_zero]
                                    refine wpAnyH_take (i := 15) (v := ?vb16) rfl (by kernel_rfl) (by kernel_rfl) (by kernel_rfl) (fun _ _ _ h => h) (Or.inl ⟨by rfl, ?hb16⟩) (by assumption) ?rb16
                                    case hb16 => (intro wS hSw; (try dsimp only at hSw); go_simp; try with_reducible rfl)
                                    case rb16 =>
                                      try simp only [Act.put, List.setIfInBounds_toArray, List.set_cons_zero, List.set_cons_succ, List.getElem_toArray, List.getElem_cons_succ, List.getElem_cons_zero]
                                      refine wpAnyH_take (i := 16) (v := ?vb17) rfl (by kernel_rfl) (by kernel_rfl) (by kernel_rfl) (fun _ _ _ h => h) (Or.inl ⟨by rfl, ?hb17⟩) (by assumption) ?rb17
                                      case hb17 => (intro wS hSw; (try dsimp only at hSw); go_simp; try with_reducible rfl)
                                      case rb17 =>
                                        try simp only [Act.put, List.setIfInBounds_toArray, List.set_cons_zero, List.set_cons_succ, List.getElem_toArray, List.getElem_cons_succ, List.getElem_cons_zero]
                                        refine wpAnyH_take (i := 17) (v := ?vb18) rfl (by kernel_rfl) (by kernel_rfl) (by kernel_rfl) (fun _ _ _ h => h) (Or.inl ⟨by rfl, ?hb18⟩) (by assumption) ?rb18
                                        case hb18 => (intro wS hSw; (try dsimp only at hSw); go_simp; try with_reducible rfl)
                                        case rb18 =>
                                          try simp only [Act.put, List.setIfInBounds_toArray, List.set_cons_zero, List.set_cons_succ, List.getElem_toArray, List.getElem_cons_succ, List.getElem_cons_zero]
                                          refine wpAnyH_take (i := 18) (v := ?vb19) rfl (by kernel_rfl) (by kernel_rfl) (by kernel_rfl) (fun _ _ _ h => h) (Or.inl ⟨by rfl, ?hb19⟩) (by assumption) ?rb19
                                          case hb19 => (intro wS hSw; (try dsimp only at hSw); go_simp; try with_reducible rfl)
                                          case rb19 =>
                                            try simp only [Act.put, List.setIfInBounds_toArray, List.set_cons_zero, List.set_cons_succ, List.getElem_toArray, List.getElem_cons_succ, List.getElem_cons_zero]
                                            refine wpAnyH_take (i := 19) (v := ?vb20) rfl (by kernel_rfl) (by kernel_rfl) (by kernel_rfl) (fun _ _ _ h => h) (Or.inl ⟨by rfl, ?hb20⟩) (by assumption) ?rb20
                                            case hb20 => (intro wS hSw; (try dsimp only at hSw); go_simp; try with_reducible rfl)
                                            case rb20 =>
                                              try simp only [Act.put, List.setIfInBounds_toArray, List.set_cons_zero, List.set_cons_succ, List.getElem_toArray, List.getElem_cons_succ, List.getElem_cons_zero]
                                              refine wpAnyH_take (i := 20) (v := undef) rfl (by kernel_rfl) (by kernel_rfl) (by kernel_rfl) (fun _ _ _ h => h) (Or.inr ⟨by rfl, rfl⟩) (by assumption) ?rb21
                                              case rb21 =>
                                                try simp only [Act.put, List.setIfInBounds_toArray, List.set_cons_zero, List.set_cons_succ, List.getElem_toArray, List.getElem_cons_succ, List.getElem_cons_zero]
                                                refine wpAnyH_take (i := 21) (v := undef) rfl (by kernel_rfl) (by kernel_rfl) (by kernel_rfl) (fun _ _ _ h => h) (Or.inr ⟨by rfl, rfl⟩) (by assumption) ?rb22
                                                case rb22 =>
                                                  try simp only [Act.put, List.setIfInBounds_toArray, List.set_cons_zero, List.set_cons_succ, List.getElem_toArray, List.getElem_cons_succ, List.getElem_cons_zero]
                                                  refine wpAnyH_take (i := 22) (v := undef) rfl (by kernel_rfl) (by kernel_rfl) (by kernel_rfl) (fun _ _ _ h => h) (Or.inr ⟨by rfl, rfl⟩) (by assumption) ?rb23
                                                  case rb23 =>
                                                    try simp only [Act.put, List.setIfInBounds_toArray, List.set_cons_zero, List.set_cons_succ, List.getElem_toArray, List.getElem_cons_succ, List.getElem_cons_zero]
                                                    refine wpAnyH_take (i := 23) (v := undef) rfl (by kernel_rfl) (by kernel_rfl) (by kernel_rfl) (fun _ _ _ h => h) (Or.inr ⟨by rfl, rfl⟩) (by assumption) ?rb24
                                                    case rb24 =>
                                                      try simp only [Act.put, List.setIfInBounds_toArray, List.set_cons_zero, List.set_cons_succ, List.getElem_toArray, List.getElem_cons_succ, List.getElem_cons_zero]
                                                      refine wpAnyH_take (i := 24) (v := undef) rfl (by kernel_rfl) (by kernel_rfl) (by kernel_rfl) (fun _ _ _ h => h) (Or.inr ⟨by rfl, rfl⟩) (by assumption) ?rb25
                                                      case rb25 =>
                                                        try simp only [Act.put, List.setIfInBounds_toArray, List.set_cons_zero, List.set_cons_succ, List.getElem_toArray, List.getElem_cons_succ, List.getElem_cons_zero]
                                                        refine wpAnyH_take (i := 25) (v := undef) rfl (by kernel_rfl) (by kernel_rfl) (by kernel_rfl) (fun _ _ _ h => h) (Or.inr ⟨by rfl, rfl⟩) (by assumption) ?rb26
                                                        case rb26 =>
                                                          try simp only [Act.put, List.setIfInBounds_toArray, List.set_cons_zero, List.set_cons_succ, List.getElem_toArray, List.getElem_cons_succ, List.getElem_cons_zero]
                                                          refine wpAnyH_take (i := 26) (v := undef) rfl (by kernel_rfl) (by kernel_rfl) (by kernel_rfl) (fun _ _ _ h => h) (Or.inr ⟨by rfl, rfl⟩) (by assumption) ?rb27
                                                          case rb27 =>
                                                            try simp only [Act.put, List.setIfInBounds_toArray, List.set_cons_zero, List.set_cons_succ, List.getElem_toArray, List.getElem_cons_succ, List.getElem_cons_zero]
                                                            refine wpAnyH_take (i := 27) (v := ?vb28) rfl (by kernel_rfl) (by kernel_rfl) (by kernel_rfl) (fun _ _ _ h => h) (Or.inl ⟨by rfl, ?hb28⟩) (by assumption) ?rb28
                                                            case hb28 => (intro wS hSw; (try dsimp only at hSw); go_simp; try with_reducible rfl)
                                                            case rb28 =>
                                                              try simp only [Act.put, List.setIfInBounds_toArray, List.set_cons_zero, List.set_cons_succ, List.getElem_toArray, List.getElem_cons_succ, List.getElem_cons_zero]
                                                              refine wpAnyH_done (by kernel_rfl) ?_ _
                                                              go_wp2_with fail
                                                              go_meet
                                                              exact ⟨rfl, hbQ⟩
    obtain ⟨rfl, hwc⟩ := hcut
    have Hwc : Hid (Below W0.heap.size W0 wc) := hwc
    clear hwc
    go_wp2_with fail
    go_ret
    exact ⟨false, rfl, HB0.out.trans (Hwc.out.mono HB0.out.size), HF.out⟩
  have heq : ((a.code.length : Int) != (c.length : Int)) = false := by simpa using (show (a.code.length : Int) = (c.length : Int) by omega)
  by_cases hlen2 : a.maps.length = c.length
  case neg =>
    have hne : ((a.maps.length : Int) != (a.code.length : Int)) = true := by simpa using (show ¬ (a.maps.length : Int) = (a.code.length : Int) by omega)
    have HF : Hid (SaysAsm p a false) := asmIs_len (fun h => hlen2 (by rw [h.2, Hafu.out, Hcf.out]))
    clear hlen1 hlen2
    go_enter Tryz.func22, Tryz.ntmps22
    go_upto_region 1 with fail
    rw [← HW0.out]
    go_cut [38] (fun q wc => q = .bool true ∧ Below W0.heap.size W0 wc)
    case first =>
        have hb0 : Below W0.heap.size W0 W0.drew := (Below.refl _ _).drew
        refine wp_region_held_drew (S := fun w' => w'.cell? ⟨w.heap.size, 0, none⟩ = some (.slice (some ⟨bf, offf, none⟩) p.length cap) ∧ w'.cell? ⟨w.heap.size + 1, 0, none⟩ = some (.int .i64 (f : Int)) ∧ w'.cell? ⟨w.heap.size + 1, 1, none⟩ = some (.slice C a.code.length cac) ∧ w'.cell? ⟨w.heap.size + 1, 2, none⟩ = some (.slice D a.maps.length dap) ∧ w'.cell? ⟨bf, offf + f * 3 + 2, none⟩ = some (.slice Ac c.length capc)) (by kernel_rfl) (HS.out _ hb0) (fun hHeld => ?_)
        refine wpAnyH_take (i := 0) (v := ?vc1) rfl (by kernel_rfl) (by kernel_rfl) (by kernel_rfl) (fun _ _ _ h => h) (Or.inl ⟨by rfl, ?hc1⟩) (by assumption) ?rc1
        case hc1 => (intro wS hSw; (try dsimp only at hSw); go_simp; try with_reducible rfl)
        case rc1 =>
          try simp only [Act.put, List.setIfInBounds_toArray, List.set_cons_zero, List.set_cons_succ, List.getElem_toArray, List.getElem_cons_zero]
          refine wpAnyH_take (i := 1) (v := ?vc2) rfl (by kernel_rfl) (by kernel_rfl) (by kernel_rfl) (fun _ _ _ h => h) (Or.inl ⟨by rfl, ?hc2⟩) (by assumption) ?rc2
          case hc2 => (intro wS hSw; (try dsimp only at hSw); go_simp; try with_reducible rfl)
          case rc2 =>
            try simp only [Act.put, List.setIfInBounds_toArray, List.set_cons_zero, List.set_cons_succ, List.getElem_toArray, List.getElem_cons_succ, List.getElem_cons_zero]
            refine wpAnyH_take (i := 2) (v := ?vc3) rfl (by kernel_rfl) (by kernel_rfl) (by kernel_rfl) (fun _ _ _ h => h) (Or.inl ⟨by rfl, ?hc3⟩) (by assumption) ?rc3
            case hc3 => (intro wS hSw; (try dsimp only at hSw); go_simp; try with_reducible rfl)
            case rc3 =>
              try simp only [Act.put, List.setIfInBounds_toArray, List.set_cons_zero, List.set_cons_succ, List.getElem_toArray, List.getElem_cons_succ, List.getElem_cons_zero]
              refine wpAnyH_ready (rs := [3]) (by kernel_rfl) (by simp) ?_
              refine AllReadyH.cons rfl (fun K hK => ?_) AllReadyH.nil
              go_simp
              refine (HIS.out _ hb0).mono ?_
              rintro e wQ ⟨b, rfl, hbQ0, hiff⟩
              have hbQ : Below W0.heap.size W0 wQ := hb0.trans hbQ0
              obtain rfl : b = true := (hiff.2 ⟨HR0.out.1, Hin.out⟩)
              clear hiff
              go_wp2_with fail
              refine hK.out _ _ ?_ (fun hHeldc4 => ?_)
              · exact HS.out wQ hbQ
              clear hK K
              try simp only [Act.put, List.setIfInBounds_toArray, List.set_cons_zero, List.set_cons_succ, List.getElem_toArray, List.getElem_cons_succ, List.getElem_cons_zero]
              refine wpAnyH_take (i := 4) (v := ?vc5) rfl (by kernel_rfl) (by kernel_rfl) (by kernel_rfl) (fun _ _ _ h => h) (Or.inl ⟨by rfl, ?hc5⟩) (by assumption) ?rc5
              case hc5 => (intro wS hSw; (try dsimp only at hSw); go_simp; try with_reducible rfl)
              case rc5 =>
                try simp only [Act.put, List.setIfInBounds_toArray, List.set_cons_zero, List.set_cons_succ, List.getElem_toArray, List.getElem_cons_succ, List.getElem_cons_zero]
                refine wpAnyH_take (i := 5) (v := ?vc6) rfl (by kernel_rfl) (by kernel_rfl) (by kernel_rfl) (fun _ _ _ h => h) (Or.inl ⟨by rfl, ?hc6⟩) (by assumption) ?rc6
                case hc6 => (intro wS hSw; (try dsimp only at hSw); go_simp; try with_reducible rfl)
                case rc6 =>
                  try simp only [Act.put, List.setIfInBounds_toArray, List.set_cons_zero, List.set_cons_succ, List.getElem_toArray, List.getElem_cons_succ, List.getElem_cons_zero]
                  refine wpAnyH_take (i := 6) (v := ?vc7) rfl (by kernel_rfl) (by kernel_rfl) (by kernel_rfl) (fun _ _ _ h => h) (Or.inl ⟨by rfl, ?hc7⟩) (by assumption) ?rc7
                  case hc7 => (intro wS hSw; (try dsimp only at hSw); go_simp; try with_reducible rfl)
                  case rc7 =>
                    try simp only [Act.put, List.setIfInBounds_toArray, List.set_cons_zero, List.set_cons_succ, List.getElem_toArray, List.getElem_cons_succ, List.getElem_cons_zero]
                    refine wpAnyH_take (i := 7) (v := ?vc8) rfl (by kernel_rfl) (by kernel_rfl) (by kernel_rfl) (fun _ _ _ h => h) (Or.inl ⟨by rfl, ?hc8⟩) (by assumption) ?rc8
                    case hc8 => (intro wS hSw; (try dsimp only at hSw); go_simp; try with_reducible rfl)
                    case rc8 =>
                      try simp only [Act.put, List.setIfInBounds_toArray, List.set_cons_zero, List.set_cons_succ, List.getElem_toArray, List.getElem_cons_succ, List.getElem_cons_zero]
                      refine wpAnyH_take (i := 8) (v := ?vc9) rfl (by kernel_rfl) (by kernel_rfl) (by kernel_rfl) (fun _ _ _ h => h) (Or.inl ⟨by rfl, ?hc9⟩) (by assumption) ?rc9
                      case hc9 => (intro wS hSw; (try dsimp only at hSw); go_simp; try with_reducible rfl)
                      case rc9 =>
                        try simp only [Act.put, List.setIfInBounds_toArray, List.set_cons_zero, List.set_cons_succ, List.getElem_toArray, List.getElem_cons_succ, List.getElem_cons_zero]
                        refine wpAnyH_take (i := 9) (v := ?vc10) rfl (by kernel_rfl) (by kernel_rfl) (by kernel_rfl) (fun _ _ _ h => h) (Or.inl ⟨by rfl, ?hc10⟩) (by assumption) ?rc10
                        case hc10 => (intro wS hSw; (try dsimp only at hSw); go_simp; try with_reducible rfl)
                        case rc10 =>
                          try simp only [Act.put, List.setIfInBounds_toArray, List.set_cons_zero, List.set_cons_succ, List.getElem_toArray, List.getElem_cons_succ, List.getElem_cons_zero]
                          refine wpAnyH_take (i := 10) (v := ?vc11) rfl (by kernel_rfl) (by kernel_rfl) (by kernel_rfl) (fun _ _ _ h => h) (Or.inl ⟨by rfl, ?hc11⟩) (by assumption) ?rc11
                          case hc11 => (intro wS hSw; (try dsimp only at hSw); go_simp; try with_reducible rfl)
                          case rc11 =>
                            try simp only [Act.put, List.setIfInBounds_toArray, List.set_cons_zero, List.set_cons_succ, List.getElem_toArray, List.getElem_cons_succ, List.getElem_cons_zero]
                            refine wpAnyH_take (i := 11) (v := ?vc12) rfl (by kernel_rfl) (by kernel_rfl) (by kernel_rfl) (fun _ _ _ h => h) (Or.inl ⟨by rfl, ?hc12⟩) (by assumption) ?rc12
                            case hc12 => (intro wS hSw; (try dsimp only at hSw); go_simp; try with_reducible rfl)
                            case rc12 =>
                              try simp only [Act.put, List.setIfInBounds_toArray, List.set_cons_zero, List.set_cons_succ, List.getElem_toArray, List.getElem_cons_succ, List.getElem_cons_zero]
                              refine wpAnyH_take (i := 12) (v := ?vc13) rfl (by kernel_rfl) (by kernel_rfl) (by kernel_rfl) (fun _ _ _ h => h) (Or.inl ⟨by rfl, ?hc13⟩) (by assumption) ?rc13
                              case hc13 => (intro wS hSw; (try dsimp only at hSw); go_simp; try with_reducible rfl)
                              case rc13 =>
                                try simp only [Act.put, List.setIfInBounds_toArray, List.set_cons_zero, List.set_cons_succ, List.getElem_toArray, List.getElem_cons_succ, List.getElem_cons_zero]
                                refine wpAnyH_take (i := 13) (v := ?vc14) rfl (by kernel_rfl) (by kernel_rfl) (by kernel_rfl) (fun _ _ _ h => h) (Or.inl ⟨by rfl, ?hc14⟩) (by assumption) ?rc14
                                case hc14 => (intro wS hSw; (try dsimp only at hSw); go_simp; try with_reducible rfl)
                                case rc14 =>
                                  try simp only [Act.put, List.setIfInBounds_toArray, List.set_cons_zero, List.set_cons_succ, List.getElem_toArray, List.getElem_cons_succ, List.getElem_cons_zero]
                                  refine wpAnyH_take (i := 14) (v := ?vc15) rfl (by kernel_rfl) (by kernel_rfl) (by kernel_rfl) (fun _ _ _ h => h) (Or.inl ⟨by rfl, ?hc15⟩) (by assumption) ?rc15
                                  case hc15 => (intro wS hSw; (try dsimp only at hSw); go_simp; try with_reducible rfl)
                                  case rc15 =>
                                    try simp only [Act.put, List.setIfInBounds_toArray, List.set_cons_zero, List.set_cons_succ, List.getElem_toArray, List.getElem_cons_succ, List.getElem_cons_zero]
                                    refine wpAnyH_take (i := 15) (v := ?vc16) rfl (by kernel_rfl) (by kernel_rfl) (by kernel_rfl) (fun _ _ _ h => h) (Or.inl ⟨by rfl, ?hc16⟩) (by assumption) ?rc16
                                    case hc16 => (intro wS hSw; (try dsimp only at hSw); go_simp; try with_reducible rfl)
                                    case rc16 =>
                                      try simp only [Act.put, List.setIfInBounds_toArray, List.set_cons_zero, List.set_cons_succ, List.getElem_toArray, List.getElem_cons_succ, List.getElem_cons_zero]
                                      refine wpAnyH_take (i := 16) (v := ?vc17) rfl (by kernel_rfl) (by kernel_rfl) (by kernel_rfl) (fun _ _ _ h => h) (Or.inl ⟨by rfl, ?hc17⟩) (by assumption) ?rc17
                                      case hc17 => (intro wS hSw; (try dsimp only at hSw); go_simp; try with_reducible rfl)
                                      case rc17 =>
                                        try simp only [Act.put, List.setIfInBounds_toArray, List.set_cons_zero, List.set_cons_succ, List.getElem_toArray, List.getElem_cons_succ, List.getElem_cons_zero]
                                        refine wpAnyH_take (i := 17) (v := ?vc18) rfl (by kernel_rfl) (by kernel_rfl) (by kernel_rfl) (fun _ _ _ h => h) (Or.inl ⟨by rfl, ?hc18⟩) (by assumption) ?rc18
                                        case hc18 => (intro wS hSw; (try dsimp only at hSw); go_simp; try with_reducible rfl)
                                        case rc18 =>
                                          try simp only [Act.put, List.setIfInBounds_toArray, List.set_cons_zero, List.set_cons_succ, List.getElem_toArray, List.getElem_cons_succ, List.getElem_cons_zero]
                                          refine wpAnyH_take (i := 18) (v := ?vc19) rfl (by kernel_rfl) (by kernel_rfl) (by kernel_rfl) (fun _ _ _ h => h) (Or.inl ⟨by rfl, ?hc19⟩) (by assumption) ?rc19
                                          case hc19 => (intro wS hSw; (try dsimp only at hSw); go_simp; try with_reducible rfl)
                                          case rc19 =>
                                            try simp only [Act.put, List.setIfInBounds_toArray, List.set_cons_zero, List.set_cons_succ, List.getElem_toArray, List.getElem_cons_succ, List.getElem_cons_zero]
                                            refine wpAnyH_take (i := 19) (v := ?vc20) rfl (by kernel_rfl) (by kernel_rfl) (by kernel_rfl) (fun _ _ _ h => h) (Or.inl ⟨by rfl, ?hc20⟩) (by assumption) ?rc20
                                            case hc20 => (intro wS hSw; (try dsimp only at hSw); go_simp; try with_reducible rfl)
                                            case rc20 =>
                                              try simp only [Act.put, List.setIfInBounds_toArray, List.set_cons_zero, List.set_cons_succ, List.getElem_toArray, List.getElem_cons_succ, List.getElem_cons_zero]
                                              refine wpAnyH_take (i := 20) (v := ?vc21) rfl (by kernel_rfl) (by kernel_rfl) (by kernel_rfl) (fun _ _ _ h => h) (Or.inl ⟨by rfl, ?hc21⟩) (by assumption) ?rc21
                                              case hc21 => (intro wS hSw; (try dsimp only at hSw); go_simp; try with_reducible rfl)
                                              case rc21 =>
                                                try simp only [Act.put, List.setIfInBounds_toArray, List.set_cons_zero, List.set_cons_succ, List.getElem_toArray, List.getElem_cons_succ, List.getElem_cons_zero]
                                                refine wpAnyH_take (i := 21) (v := ?vc22) rfl (by kernel_rfl) (by kernel_rfl) (by kernel_rfl) (fun _ _ _ h => h) (Or.inl ⟨by rfl, ?hc22⟩) (by assumption) ?rc22
                                                case hc22 => (intro wS hSw; (try dsimp only at hSw); go_simp; try with_reducible rfl)
                                                case rc22 =>
                                                  try simp only [Act.put, List.setIfInBounds_toArray, List.set_cons_zero, List.set_cons_succ, List.getElem_toArray, List.getElem_cons_succ, List.getElem_cons_zero]
                                                  refine wpAnyH_take (i := 22) (v := ?vc23) rfl (by kernel_rfl) (by kernel_rfl) (by kernel_rfl) (fun _ _ _ h => h) (Or.inl ⟨by rfl, ?hc23⟩) (by assumption) ?rc23
                                                  case hc23 => (intro wS hSw; (try dsimp only at hSw); go_simp; try with_reducible rfl)
                                                  case rc23 =>
                                                    try simp only [Act.put, List.setIfInBounds_toArray, List.set_cons_zero, List.set_cons_succ, List.getElem_toArray, List.getElem_cons_succ, List.getElem_cons_zero]
                                                    refine wpAnyH_take (i := 23) (v := ?vc24) rfl (by kernel_rfl) (by kernel_rfl) (by kernel_rfl) (fun _ _ _ h => h) (Or.inl ⟨by rfl, ?hc24⟩) (by assumption) ?rc24
                                                    case hc24 => (intro wS hSw; (try dsimp only at hSw); go_simp; try with_reducible rfl)
                                                    case rc24 =>
                                                      try simp only [Act.put, List.setIfInBounds_toArray, List.set_cons_zero, List.set_cons_succ, List.getElem_toArray, List.getElem_cons_succ, List.getElem_cons_zero]
                                                      refine wpAnyH_take (i := 24) (v := ?vc25) rfl (by kernel_rfl) (by kernel_rfl) (by kernel_rfl) (fun _ _ _ h => h) (Or.inl ⟨by rfl, ?hc25⟩) (by assumption) ?rc25
                                                      case hc25 => (intro wS hSw; (try dsimp only at hSw); go_simp; try with_reducible rfl)
                                                      case rc25 =>
                                                        try simp only [Act.put, List.setIfInBounds_toArray, List.set_cons_zero, List.set_cons_succ, List.getElem_toArray, List.getElem_cons_succ, List.getElem_cons_zero]
                                                        refine wpAnyH_take (i := 25) (v := ?vc26) rfl (by kernel_rfl) (by kernel_rfl) (by kernel_rfl) (fun _ _ _ h => h) (Or.inl ⟨by rfl, ?hc26⟩) (by assumption) ?rc26
                                                        case hc26 => (intro wS hSw; (try dsimp only at hSw); go_simp; try with_reducible rfl)
                                                        case rc26 =>
                                                          try simp only [Act.put, List.setIfInBounds_toArray, List.set_cons_zero, List.set_cons_succ, List.getElem_toArray, List.getElem_cons_succ, List.getElem_cons_zero]
                                                          refine wpAnyH_take (i := 26) (v := ?vc27) rfl (by kernel_rfl) (by kernel_rfl) (by kernel_rfl) (fun _ _ _ h => h) (Or.inl ⟨by rfl, ?hc27⟩) (by assumption) ?rc27
                                                          case hc27 => (intro wS hSw; (try dsimp only at hSw); go_simp; try with_reducible rfl)
                                                          case rc27 =>
                                                            try simp only [Act.put, List.setIfInBounds_toArray, List.set_cons_zero, List.set_cons_succ, List.getElem_toArray, List.getElem_cons_succ, List.getElem_cons_zero]
                                                            refine wpAnyH_take (i := 27) (v := ?vc28) rfl (by kernel_rfl) (by kernel_rfl) (by kernel_rfl) (fun _ _ _ h => h) (Or.inl ⟨by rfl, ?hc28⟩) (by assumption) ?rc28
                                                            case hc28 => (intro wS hSw; (try dsimp only at hSw); go_simp; try with_reducible rfl)
                                                            case rc28 =>
                                                              try simp only [Act.put, List.setIfInBounds_toArray, List.set_cons_zero, List.set_cons_succ, List.getElem_toArray, List.getElem_cons_succ, List.getElem_cons_zero]
                                                              refine wpAnyH_done (by kernel_rfl) ?_ _
                                                              go_wp2_with fail
                                                              go_meet
                                                              exact ⟨rfl, hbQ⟩
    obtain ⟨rfl, hwc⟩ := hcut
    have Hwc : Hid (Below W0.heap.size W0 wc) := hwc
    clear hwc
    go_wp2_with fail
    go_ret
    exact ⟨false, rfl, HB0.out.trans (Hwc.out.mono HB0.out.size), HF.out⟩
  have heq2 : ((a.maps.length : Int) != (a.code.length : Int)) = false := by simpa using (show (a.maps.length : Int) = (a.code.length : Int) by omega)
  have HAI : Hid (AsmIs p a ↔ ∀ k, k < a.code.length → placeOk p a.func (hs.getD k 0) (a.code.getD k default) (a.maps.getD k []) = true) :=
    asmIs_iff HR0.out (by rw [Hafu.out, Hcf.out]; exact hlen1) (by rw [Hafu.out, Hcf.out]; exact hlen2) (by rw [Hafu.out, Hcf.out]; exact Hrun.out)
  have Hlen1 : Hid (a.code.length = c.length) := hlen1
  have Hlen2 : Hid (a.maps.length = c.length) := hlen2
  clear hlen1 hlen2
  go_enter Tryz.func22, Tryz.ntmps22
  go_upto_region 1 with fail
  rw [← HW0.out]
  go_cut [38] (fun q wc => q = .bool false ∧ Below W0.heap.size W0 wc)
  case first =>
      have hb0 : Below W0.heap.size W0 W0.drew := (Below.refl _ _).drew
      refine wp_region_held_drew (S := fun w' => w'.cell? ⟨w.heap.size, 0, none⟩ = some (.slice (some ⟨bf, offf, none⟩) p.length cap) ∧ w'.cell? ⟨w.heap.size + 1, 0, none⟩ = some (.int .i64 (f : Int)) ∧ w'.cell? ⟨w.heap.size + 1, 1, none⟩ = some (.slice C a.code.length cac) ∧ w'.cell? ⟨w.heap.size + 1, 2, none⟩ = some (.slice D a.maps.length dap) ∧ w'.cell? ⟨bf, offf + f * 3 + 2, none⟩ = some (.slice Ac c.length capc)) (by kernel_rfl) (HS.out _ hb0) (fun hHeld => ?_)
      refine wpAnyH_take (i := 0) (v := ?vd1) rfl (by kernel_rfl) (by kernel_rfl) (by kernel_rfl) (fun _ _ _ h => h) (Or.inl ⟨by rfl, ?hd1⟩) (by assumption) ?rd1
      case hd1 => (intro wS hSw; (try dsimp only at hSw); go_simp; try with_reducible rfl)
      case rd1 =>
        try simp only [Act.put, List.setIfInBounds_toArray, List.set_cons_zero, List.set_cons_succ, List.getElem_toArray, List.getElem_cons_zero]
        refine wpAnyH_take (i := 1) (v := ?vd2) rfl (by kernel_rfl) (by kernel_rfl) (by kernel_rfl) (fun _ _ _ h => h) (Or.inl ⟨by rfl, ?hd2⟩) (by assumption) ?rd2
        case hd2 => (intro wS hSw; (try dsimp only at hSw); go_simp; try with_reducible rfl)
        case rd2 =>
          try simp only [Act.put, List.setIfInBounds_toArray, List.set_cons_zero, List.set_cons_succ, List.getElem_toArray, List.getElem_cons_succ, List.getElem_cons_zero]
          refine wpAnyH_take (i := 2) (v := ?vd3) rfl (by kernel_rfl) (by kernel_rfl) (by kernel_rfl) (fun _ _ _ h => h) (Or.inl ⟨by rfl, ?hd3⟩) (by assumption) ?rd3
          case hd3 => (intro wS hSw; (try dsimp only at hSw); go_simp; try with_reducible rfl)
          case rd3 =>
            try simp only [Act.put, List.setIfInBounds_toArray, List.set_cons_zero, List.set_cons_succ, List.getElem_toArray, List.getElem_cons_succ, List.getElem_cons_zero]
            refine wpAnyH_ready (rs := [3]) (by kernel_rfl) (by simp) ?_
            refine AllReadyH.cons rfl (fun K hK => ?_) AllReadyH.nil
            go_simp
            refine (HIS.out _ hb0).mono ?_
            rintro e wQ ⟨b, rfl, hbQ0, hiff⟩
            have hbQ : Below W0.heap.size W0 wQ := hb0.trans hbQ0
            obtain rfl : b = true := (hiff.2 ⟨HR0.out.1, Hin.out⟩)
            clear hiff
            go_wp2_with fail
            refine hK.out _ _ ?_ (fun hHeldd4 => ?_)
            · exact HS.out wQ hbQ
            clear hK K
            try simp only [Act.put, List.setIfInBounds_toArray, List.set_cons_zero, List.set_cons_succ, List.getElem_toArray, List.getElem_cons_succ, List.getElem_cons_zero]
            refine wpAnyH_take (i := 4) (v := ?vd5) rfl (by kernel_rfl) (by kernel_rfl) (by kernel_rfl) (fun _ _ _ h => h) (Or.inl ⟨by rfl, ?hd5⟩) (by assumption) ?rd5
            case hd5 => (intro wS hSw; (try dsimp only at hSw); go_simp; try with_reducible rfl)
            case rd5 =>
              try simp only [Act.put, List.setIfInBounds_toArray, List.set_cons_zero, List.set_cons_succ, List.getElem_toArray, List.getElem_cons_succ, List.getElem_cons_zero]
              refine wpAnyH_take (i := 5) (v := ?vd6) rfl (by kernel_rfl) (by kernel_rfl) (by kernel_rfl) (fun _ _ _ h => h) (Or.inl ⟨by rfl, ?hd6⟩) (by assumption) ?rd6
              case hd6 => (intro wS hSw; (try dsimp only at hSw); go_simp; try with_reducible rfl)
              case rd6 =>
                try simp only [Act.put, List.setIfInBounds_toArray, List.set_cons_zero, List.set_cons_succ, List.getElem_toArray, List.getElem_cons_succ, List.getElem_cons_zero]
                refine wpAnyH_take (i := 6) (v := ?vd7) rfl (by kernel_rfl) (by kernel_rfl) (by kernel_rfl) (fun _ _ _ h => h) (Or.inl ⟨by rfl, ?hd7⟩) (by assumption) ?rd7
                case hd7 => (intro wS hSw; (try dsimp only at hSw); go_simp; try with_reducible rfl)
                case rd7 =>
                  try simp only [Act.put, List.setIfInBounds_toArray, List.set_cons_zero, List.set_cons_succ, List.getElem_toArray, List.getElem_cons_succ, List.getElem_cons_zero]
                  refine wpAnyH_take (i := 7) (v := ?vd8) rfl (by kernel_rfl) (by kernel_rfl) (by kernel_rfl) (fun _ _ _ h => h) (Or.inl ⟨by rfl, ?hd8⟩) (by assumption) ?rd8
                  case hd8 => (intro wS hSw; (try dsimp only at hSw); go_simp; try with_reducible rfl)
                  case rd8 =>
                    try simp only [Act.put, List.setIfInBounds_toArray, List.set_cons_zero, List.set_cons_succ, List.getElem_toArray, List.getElem_cons_succ, List.getElem_cons_zero]
                    refine wpAnyH_take (i := 8) (v := ?vd9) rfl (by kernel_rfl) (by kernel_rfl) (by kernel_rfl) (fun _ _ _ h => h) (Or.inl ⟨by rfl, ?hd9⟩) (by assumption) ?rd9
                    case hd9 => (intro wS hSw; (try dsimp only at hSw); go_simp; try with_reducible rfl)
                    case rd9 =>
                      try simp only [Act.put, List.setIfInBounds_toArray, List.set_cons_zero, List.set_cons_succ, List.getElem_toArray, List.getElem_cons_succ, List.getElem_cons_zero]
                      refine wpAnyH_take (i := 9) (v := ?vd10) rfl (by kernel_rfl) (by kernel_rfl) (by kernel_rfl) (fun _ _ _ h => h) (Or.inl ⟨by rfl, ?hd10⟩) (by assumption) ?rd10
                      case hd10 => (intro wS hSw; (try dsimp only at hSw); go_simp; try with_reducible rfl)
                      case rd10 =>
                        try simp only [Act.put, List.setIfInBounds_toArray, List.set_cons_zero, List.set_cons_succ, List.getElem_toArray, List.getElem_cons_succ, List.getElem_cons_zero]
                        refine wpAnyH_take (i := 10) (v := ?vd11) rfl (by kernel_rfl) (by kernel_rfl) (by kernel_rfl) (fun _ _ _ h => h) (Or.inl ⟨by rfl, ?hd11⟩) (by assumption) ?rd11
                        case hd11 => (intro wS hSw; (try dsimp only at hSw); go_simp; try with_reducible rfl)
                        case rd11 =>
                          try simp only [Act.put, List.setIfInBounds_toArray, List.set_cons_zero, List.set_cons_succ, List.getElem_toArray, List.getElem_cons_succ, List.getElem_cons_zero]
                          refine wpAnyH_take (i := 11) (v := ?vd12) rfl (by kernel_rfl) (by kernel_rfl) (by kernel_rfl) (fun _ _ _ h => h) (Or.inl ⟨by rfl, ?hd12⟩) (by assumption) ?rd12
                          case hd12 => (intro wS hSw; (try dsimp only at hSw); go_simp; try with_reducible rfl)
                          case rd12 =>
                            try simp only [Act.put, List.setIfInBounds_toArray, List.set_cons_zero, List.set_cons_succ, List.getElem_toArray, List.getElem_cons_succ, List.getElem_cons_zero]
                            refine wpAnyH_take (i := 12) (v := ?vd13) rfl (by kernel_rfl) (by kernel_rfl) (by kernel_rfl) (fun _ _ _ h => h) (Or.inl ⟨by rfl, ?hd13⟩) (by assumption) ?rd13
                            case hd13 => (intro wS hSw; (try dsimp only at hSw); go_simp; try with_reducible rfl)
                            case rd13 =>
                              try simp only [Act.put, List.setIfInBounds_toArray, List.set_cons_zero, List.set_cons_succ, List.getElem_toArray, List.getElem_cons_succ, List.getElem_cons_zero]
                              refine wpAnyH_take (i := 13) (v := ?vd14) rfl (by kernel_rfl) (by kernel_rfl) (by kernel_rfl) (fun _ _ _ h => h) (Or.inl ⟨by rfl, ?hd14⟩) (by assumption) ?rd14
                              case hd14 => (intro wS hSw; (try dsimp only at hSw); go_simp; try with_reducible rfl)
                              case rd14 =>
                                try simp only [Act.put, List.setIfInBounds_toArray, List.set_cons_zero, List.set_cons_succ, List.getElem_toArray, List.getElem_cons_succ, List.getElem_cons_zero]
                                refine wpAnyH_take (i := 14) (v := ?vd15) rfl (by kernel_rfl) (by kernel_rfl) (by kernel_rfl) (fun _ _ _ h => h) (Or.inl ⟨by rfl, ?hd15⟩) (by assumption) ?rd15
                                case hd15 => (intro wS hSw; (try dsimp only at hSw); go_simp; try with_reducible rfl)
                                case rd15 =>
                                  try simp only [Act.put, List.setIfInBounds_toArray, List.set_cons_zero, List.set_cons_succ, List.getElem_toArray, List.getElem_cons_succ, List.getElem_cons_zero]
                                  refine wpAnyH_take (i := 15) (v := ?vd16) rfl (by kernel_rfl) (by kernel_rfl) (by kernel_rfl) (fun _ _ _ h => h) (Or.inl ⟨by rfl, ?hd16⟩) (by assumption) ?rd16
                                  case hd16 => (intro wS hSw; (try dsimp only at hSw); go_simp; try with_reducible rfl)
                                  case rd16 =>
                                    try simp only [Act.put, List.setIfInBounds_toArray, List.set_cons_zero, List.set_cons_succ, List.getElem_toArray, List.getElem_cons_succ, List.getElem_cons_zero]
                                    refine wpAnyH_take (i := 16) (v := ?vd17) rfl (by kernel_rfl) (by kernel_rfl) (by kernel_rfl) (fun _ _ _ h => h) (Or.inl ⟨by rfl, ?hd17⟩) (by assumption) ?rd17
                                    case hd17 => (intro wS hSw; (try dsimp only at hSw); go_simp; try with_reducible rfl)
                                    case rd17 =>
                                      try simp only [Act.put, List.setIfInBounds_toArray, List.set_cons_zero, List.set_cons_succ, List.getElem_toArray, List.getElem_cons_succ, List.getElem_cons_zero]
                                      refine wpAnyH_take (i := 17) (v := ?vd18) rfl (by kernel_rfl) (by kernel_rfl) (by kernel_rfl) (fun _ _ _ h => h) (Or.inl ⟨by rfl, ?hd18⟩) (by assumption) ?rd18
                                      case hd18 => (intro wS hSw; (try dsimp only at hSw); go_simp; try with_reducible rfl)
                                      case rd18 =>
                                        try simp only [Act.put, List.setIfInBounds_toArray, List.set_cons_zero, List.set_cons_succ, List.getElem_toArray, List.getElem_cons_succ, List.getElem_cons_zero]
                                        refine wpAnyH_take (i := 18) (v := ?vd19) rfl (by kernel_rfl) (by kernel_rfl) (by kernel_rfl) (fun _ _ _ h => h) (Or.inl ⟨by rfl, ?hd19⟩) (by assumption) ?rd19
                                        case hd19 => (intro wS hSw; (try dsimp only at hSw); go_simp; try with_reducible rfl)
                                        case rd19 =>
                                          try simp only [Act.put, List.setIfInBounds_toArray, List.set_cons_zero, List.set_cons_succ, List.getElem_toArray, List.getElem_cons_succ, List.getElem_cons_zero]
                                          refine wpAnyH_take (i := 19) (v := ?vd20) rfl (by kernel_rfl) (by kernel_rfl) (by kernel_rfl) (fun _ _ _ h => h) (Or.inl ⟨by rfl, ?hd20⟩) (by assumption) ?rd20
                                          case hd20 => (intro wS hSw; (try dsimp only at hSw); go_simp; try with_reducible rfl)
                                          case rd20 =>
                                            try simp only [Act.put, List.setIfInBounds_toArray, List.set_cons_zero, List.set_cons_succ, List.getElem_toArray, List.getElem_cons_succ, List.getElem_cons_zero]
                                            refine wpAnyH_take (i := 20) (v := ?vd21) rfl (by kernel_rfl) (by kernel_rfl) (by kernel_rfl) (fun _ _ _ h => h) (Or.inl ⟨by rfl, ?hd21⟩) (by assumption) ?rd21
                                            case hd21 => (intro wS hSw; (try dsimp only at hSw); go_simp; try with_reducible rfl)
                                            case rd21 =>
                                              try simp only [Act.put, List.setIfInBounds_toArray, List.set_cons_zero, List.set_cons_succ, List.getElem_toArray, List.getElem_cons_succ, List.getElem_cons_zero]
                                              refine wpAnyH_take (i := 21) (v := ?vd22) rfl (by kernel_rfl) (by kernel_rfl) (by kernel_rfl) (fun _ _ _ h => h) (Or.inl ⟨by rfl, ?hd22⟩) (by assumption) ?rd22
                                              case hd22 => (intro wS hSw; (try dsimp only at hSw); go_simp; try with_reducible rfl)
                                              case rd22 =>
                                                try simp only [Act.put, List.setIfInBounds_toArray, List.set_cons_zero, List.set_cons_succ, List.getElem_toArray, List.getElem_cons_succ, List.getElem_cons_zero]
                                                refine wpAnyH_take (i := 22) (v := ?vd23) rfl (by kernel_rfl) (by kernel_rfl) (by kernel_rfl) (fun _ _ _ h => h) (Or.inl ⟨by rfl, ?hd23⟩) (by assumption) ?rd23
                                                case hd23 => (intro wS hSw; (try dsimp only at hSw); go_simp; try with_reducible rfl)
                                                case rd23 =>
                                                  try simp only [Act.put, List.setIfInBounds_toArray, List.set_cons_zero, List.set_cons_succ, List.getElem_toArray, List.getElem_cons_succ, List.getElem_cons_zero]
                                                  refine wpAnyH_take (i := 23) (v := ?vd24) rfl (by kernel_rfl) (by kernel_rfl) (by kernel_rfl) (fun _ _ _ h => h) (Or.inl ⟨by rfl, ?hd24⟩) (by assumption) ?rd24
                                                  case hd24 => (intro wS hSw; (try dsimp only at hSw); go_simp; try with_reducible rfl)
                                                  case rd24 =>
                                                    try simp only [Act.put, List.setIfInBounds_toArray, List.set_cons_zero, List.set_cons_succ, List.getElem_toArray, List.getElem_cons_succ, List.getElem_cons_zero]
                                                    refine wpAnyH_take (i := 24) (v := ?vd25) rfl (by kernel_rfl) (by kernel_rfl) (by kernel_rfl) (fun _ _ _ h => h) (Or.inl ⟨by rfl, ?hd25⟩) (by assumption) ?rd25
                                                    case hd25 => (intro wS hSw; (try dsimp only at hSw); go_simp; try with_reducible rfl)
                                                    case rd25 =>
                                                      try simp only [Act.put, List.setIfInBounds_toArray, List.set_cons_zero, List.set_cons_succ, List.getElem_toArray, List.getElem_cons_succ, List.getElem_cons_zero]
                                                      refine wpAnyH_take (i := 25) (v := ?vd26) rfl (by kernel_rfl) (by kernel_rfl) (by kernel_rfl) (fun _ _ _ h => h) (Or.inl ⟨by rfl, ?hd26⟩) (by assumption) ?rd26
                                                      case hd26 => (intro wS hSw; (try dsimp only at hSw); go_simp; try with_reducible rfl)
                                                      case rd26 =>
                                                        try simp only [Act.put, List.setIfInBounds_toArray, List.set_cons_zero, List.set_cons_succ, List.getElem_toArray, List.getElem_cons_succ, List.getElem_cons_zero]
                                                        refine wpAnyH_take (i := 26) (v := ?vd27) rfl (by kernel_rfl) (by kernel_rfl) (by kernel_rfl) (fun _ _ _ h => h) (Or.inl ⟨by rfl, ?hd27⟩) (by assumption) ?rd27
                                                        case hd27 => (intro wS hSw; (try dsimp only at hSw); go_simp; try with_reducible rfl)
                                                        case rd27 =>
                                                          try simp only [Act.put, List.setIfInBounds_toArray, List.set_cons_zero, List.set_cons_succ, List.getElem_toArray, List.getElem_cons_succ, List.getElem_cons_zero]
                                                          refine wpAnyH_take (i := 27) (v := ?vd28) rfl (by kernel_rfl) (by kernel_rfl) (by kernel_rfl) (fun _ _ _ h => h) (Or.inl ⟨by rfl, ?hd28⟩) (by assumption) ?rd28
                                                          case hd28 => (intro wS hSw; (try dsimp only at hSw); go_simp; try with_reducible rfl)
                                                          case rd28 =>
                                                            try simp only [Act.put, List.setIfInBounds_toArray, List.set_cons_zero, List.set_cons_succ, List.getElem_toArray, List.getElem_cons_succ, List.getElem_cons_zero]
                                                            refine wpAnyH_done (by kernel_rfl) ?_ _
                                                            go_wp2_with fail
                                                            go_meet
                                                            exact ⟨rfl, hbQ⟩
  obtain ⟨rfl, hwc⟩ := hcut
  have Hwc : Hid (Below W0.heap.size W0 wc) := hwc
  clear hwc
  obtain ⟨s0, s1, s2, s3, -⟩ := HS.out wc Hwc.out
  have z0 := (X0.out.below Hwc.out).1
  have z1 := (X1.out.below Hwc.out).1
  have hfi2 := specHeights (.slice (some ⟨bf, offf, none⟩) p.length cap) p f wc ((Hr.out.below HB0.out).below Hwc.out) Hp.out hk (by rw [← Hcp.out]; exact hcl.1) (by rw [← Hcp.out]; exact hcl.2) (by rw [← Hcp.out]; exact Hto.out)
  rw [← Hcp.out] at hfi2
  have Hfi : Hid (Calls Tryz.prog 50 _ _ fun e w' => HTold p c f _ w' e) := hfi2
  clear hfi2 heq heq2
  go_wp2_with fail
  refine Calls.mono (R := fun e w' => HTold p c f _ w' e) Hfi.out ?_
  rintro e W ⟨bh, caph, F, A2, CC, rfl, hbl, hb2, hcase⟩
  rcases hcase with ⟨rfl, rfl, rfl, hs', hrun', hV, hl'⟩ | ⟨_, aa, _, hrun'⟩
  case inr => have := hrun'.unique Hrun.out; cases this
  have hse : hs' = hs := by have := hrun'.unique Hrun.out; simpa using this
  subst hse
  have hal : Below W.heap.size W (W.alloc (.cells #[.int .i64 0, .int .i64 0, .int .i64 0] 108)) := (Below.refl _ _).alloc (Nat.le_refl _) _
  have hbhl : bh < W.heap.size := hV.1
  have HW : Hid (∀ w', Below W.heap.size W w' → Box w' w.heap.size #[.slice (some ⟨bf, offf, none⟩) p.length cap] ∧ Box w' (w.heap.size + 1) #[.int .i64 (f : Int), .slice C c.length cac, .slice D c.length dap] ∧ VRow w' bh (ints hs') ∧ w'.cell? ⟨bf, offf + f * 3 + 1, none⟩ = some (.int .i64 L) ∧ bf < w'.heap.size ∧ FnRow 0 w' (.slice (some ⟨bf, offf, none⟩) p.length cap) p ∧ (AiRow 0 w' (.slice C c.length cac) a.code ∧ MapsRow 0 w' (.slice D c.length dap) a.maps) ∧ Below w.heap.size w w') := by
    intro w' h
    have hW : Below W0.heap.size W0 w' := Hwc.out.trans ((hb2.trans (h.mono hb2.size)).mono Hwc.out.size)
    have hw := HB0.out.trans (hW.mono HB0.out.size)
    have hA := Ha.out.below hw
    rw [AsRow, Hlen1.out, Hlen2.out] at hA
    have hB : Box w' (w.heap.size + 1) #[.int .i64 a.func, .slice C a.code.length cac, .slice D a.maps.length dap] := X1.out.below hW
    rw [Hafu.out, Hlen1.out, Hlen2.out] at hB
    exact ⟨X0.out.below hW, hB, hV.below h, (HE1.out w' hW).1, (HE1.out w' hW).2, Hr.out.below hw, hA, hw⟩
  have HAJ : Hid (AsmIs p a ↔ ∀ k, k < c.length → placeOk p f (hs'.getD k 0) (a.code.getD k default) (a.maps.getD k []) = true) := by
    have h := HAI.out
    rw [Hafu.out, Hlen1.out] at h
    exact h
  have Hal : Hid (Below W.heap.size W (W.alloc (.cells #[.int .i64 0, .int .i64 0, .int .i64 0] 108))) := hal
  clear s0 s1 s2 s3 z0 z1 Hfi HAI hlc hlm hrun' hV hb2 hal hbl hl'
  go_wp2_with fail
  go_loopg [7] (c.length) (fun g ix wr => ∃ k : Nat, k ≤ c.length ∧ ix = .int .i64 k ∧ c.length ≤ k + g ∧ Below W.heap.size W wr ∧ ∀ j, j < k → placeOk p f (hs'.getD j 0) (a.code.getD j default) (a.maps.getD j []) = true)
  case atStart => exact ⟨0, Nat.zero_le _, rfl, by omega, Hal.out, fun j h => by omega⟩
  case round =>
    obtain ⟨k, hk', rfl, hkg, hb, hok⟩ := hrel
    have Hb : Hid (Below W.heap.size W wr) := hb
    have Hok : Hid (∀ j, j < k → placeOk p f (hs'.getD j 0) (a.code.getD j default) (a.maps.getD j []) = true) := hok
    have HAll : Hid ((∀ j, j < c.length → placeOk p f (hs'.getD j 0) (a.code.getD j default) (a.maps.getD j []) = true) → SaysAsm p a true) := fun h => ⟨fun _ => HAJ.out.2 h, fun _ => rfl⟩
    obtain ⟨G, HG⟩ : ∃ G, Hid (G = gk ∧ c.length ≤ k + G) := ⟨gk, ⟨rfl, hkg⟩⟩
    obtain ⟨ka, kb, kV, kL, kfl, kF, kA, kW⟩ := HW.out wr hb
    have d1 := kb.at1
    have z1 := kb.1
    clear hb hok
    by_cases hkl : k < c.length
    · have hkc : k < a.code.length := by rw [Hlen1.out]; exact hkl
      have hkm : k < a.maps.length := by rw [Hlen2.out]; exact hkl
      obtain ⟨i, Hi⟩ : ∃ i, Hid (i = a.code[k]) := ⟨a.code[k], (rfl : a.code[k] = a.code[k])⟩
      obtain ⟨m, Hm⟩ : ∃ m, Hid (m = a.maps[k]) := ⟨a.maps[k], (rfl : a.maps[k] = a.maps[k])⟩
      have hgi : a.code.getD k default = i := by rw [Hi.out]; simp [List.getD, hkc]
      have hgm : a.maps.getD k [] = m := by rw [Hm.out]; simp [List.getD, hkm]
      obtain ⟨h, Hh⟩ : ∃ h, Hid (h = hs'.getD k 0) := ⟨hs'.getD k 0, (rfl : hs'.getD k 0 = hs'.getD k 0)⟩
      have HPl : Hid (placeOk p f h i m = true ↔ aiOk p f i = true ∧ ¬ (h < 0 ∧ (i.op ≠ 0 ∨ 0 < i.pre.length)) ∧ (m.length : Int) = (if 0 ≤ h then L + h else 0) ∧ m.all valOk = true) := by
        have := place_same (p := p) (f := f) (h := h) (i := i) (m := m)
        rw [HL.out] at this
        exact this
      have HNo : Hid (¬ placeOk p f h i m = true → SaysAsm p a false) := fun hn => ⟨fun e => (by cases e), fun e => (by have := HAJ.out.1 e k hkl; rw [hgi, hgm, ← Hh.out] at this; exact absurd this hn)⟩
      have HYes : Hid (placeOk p f h i m = true → ∀ j, j < k + 1 → placeOk p f (hs'.getD j 0) (a.code.getD j default) (a.maps.getD j []) = true) := fun hy j hj => if e : j = k then (by subst e; rw [hgi, hgm, ← Hh.out]; exact hy) else Hok.out j (by omega)
      have h08 : h = -1 ∨ (0 ≤ h ∧ h ≤ 8) := by rw [Hh.out]; exact Hr08.out k hkl
      have hadd : 0 ≤ h → IntKind.i64.wrap (L + h) = L + h := fun h0 => by have := HLr.out; exact wrap_small (by omega) (by omega)
      obtain ⟨bi, offi, xi, yi, rfl, hlti, c0, c1, c2, c3, c4, hxi, hyi⟩ := kA.1.at k hkc
      obtain ⟨bm, offm, xm, rfl, hltm, cm0, hxm⟩ := kA.2.at k hkm
      rw [← Hi.out] at c1 c2 c4 hxi hyi
      rw [← Hm.out] at hxm
      have hml := hxm.len
      have hpl := hxi.len
      obtain ⟨X1, z1', rfl⟩ := hxi.form
      obtain ⟨X2, z2, rfl⟩ := hyi.form
      obtain ⟨M1, y1, rfl⟩ := hxm.form
      obtain ⟨WI, HWI0⟩ : ∃ WI, Hid (WI = wr.alloc (.cells #[.slice X1 i.pre.length z1', .int .i64 i.op, .int .i64 i.to, .slice X2 i.l.length z2, .int .i64 i.t] 60)) := ⟨_, rfl⟩
      have hbI : Below wr.heap.size wr WI := by rw [HWI0.out]; exact (Below.refl _ _).alloc (Nat.le_refl _) _
      have HWI : Hid (Below W.heap.size W WI) := Hb.out.trans (hbI.mono Hb.out.size)
      have HBI : Hid (AiBox WI wr.heap.size (.slice X1 i.pre.length z1') (.slice X2 i.l.length z2) i) := by rw [HWI0.out]; exact box_new wr _ 60
      have HCM : Hid (∀ w', Below WI.heap.size WI w' → w'.cell? ⟨bm, offm + k, none⟩ = some (.slice M1 m.length y1) ∧ bm < w'.heap.size ∧ InsRow 0 w' (.slice M1 m.length y1) m) := fun w' h => by
        have hw : Below wr.heap.size wr w' := hbI.trans (h.mono hbI.size)
        exact ⟨by rw [hw.cell (by exact hltm)]; exact cm0, Nat.lt_of_lt_of_le hltm hw.size, hxm.below hw⟩
      have hsame := ai_same Harg.out Hin.out i
      have hCI := specAi (.slice (some ⟨bf, offf, none⟩) p.length cap) (.slice X1 i.pre.length z1') (.slice X2 i.l.length z2) p f i WI (kF.below hbI) (hxi.below hbI) (hyi.below hbI) hk
      rw [hsame] at hCI
      unfold aiV at hCI
      have HCI : Hid (Calls Tryz.prog 51 #[.agg #[.slice (some ⟨bf, offf, none⟩) p.length cap], .int .i64 (f : Int), .agg #[.slice X1 i.pre.length z1', .int .i64 i.op, .int .i64 i.to, .slice X2 i.l.length z2, .int .i64 i.t]] WI fun e w' => e = .returned (.bool (aiOk p f i)) ∧ Below WI.heap.size WI w') := hCI
      have d0 := kb.at0
      have q0 := ka.at0
      have zq := ka.1
      have hk0 : (0 : Int) ≤ (k : Int) := by omega
      have hkL : (k : Int) < (c.length : Int) := by omega
      clear hgi hgm Hi Hm hkc hkm hsame hCI kb ka kV kL kfl kF kA kW hxi hyi hxm hbI
      go_wp2_with fail
      rw [← HWI0.out]
      refine HCI.out.mono ?_
      rintro e w2 ⟨rfl, hb2⟩
      have HB2 : Hid (Below W.heap.size W w2) := HWI.out.trans (hb2.mono HWI.out.size)
      have HBI2 : Hid (AiBox w2 wr.heap.size (.slice X1 i.pre.length z1') (.slice X2 i.l.length z2) i) := HBI.out.below hb2
      have HCM2 : Hid (∀ w', Below w2.heap.size w2 w' → w'.cell? ⟨bm, offm + k, none⟩ = some (.slice M1 m.length y1) ∧ bm < w'.heap.size ∧ InsRow 0 w' (.slice M1 m.length y1) m) := fun w' h => HCM.out w' (hb2.trans (h.mono hb2.size))
      clear hb2 d0 q0 zq d1 z1 c0 c1 c2 c3 c4 cm0 hlti hltm
      obtain ⟨ka, kb, kV, kL, kfl, -, -, kW⟩ := HW.out w2 HB2.out
      have HkW : Hid (Below w.heap.size w w2) := kW
      by_cases hai : aiOk p f i = true
      case neg =>
        have HF : Hid (SaysAsm p a false) := HNo.out (fun h => hai (HPl.out.1 h).1)
        rw [Bool.not_eq_true] at hai
        rw [hai]
        clear ka kb kV kL kfl kW hadd h08
        go_wp2_with fail
        go_ret
        exact ⟨false, rfl, HkW.out, HF.out⟩
      rw [hai]
      obtain ⟨vh, -⟩ := kV.int k (by rw [Hhl.out]; exact hkl)
      rw [← Hh.out] at vh
      have zv := kV.1
      obtain ⟨zi, i0, i1, -, -, -⟩ := HBI2.out.cells
      have b0 := kb.at0
      have b2 := kb.at2
      have zb := kb.1
      have a0 := ka.at0
      have za := ka.1
      obtain ⟨m0, zm, -⟩ := HCM2.out w2 (Below.refl _ _)
      obtain ⟨n, Hn⟩ : ∃ n : Int, Hid (n = if 0 ≤ h then L + h else 0) := ⟨if 0 ≤ h then L + h else 0, (rfl : (if 0 ≤ h then L + h else 0 : Int) = _)⟩
      rw [← Hn.out] at HPl
      clear kb ka kV kW
      by_cases hneg : h < 0
      · have hn0 : n = 0 := by rw [Hn.out, if_neg (by omega)]
        have dh : decide (h < 0) = true := by simpa using hneg
        have dh' : decide (0 ≤ h) = false := decide_eq_false (by omega)
        by_cases hop : i.op = 0
        case neg =>
          have HF : Hid (SaysAsm p a false) := HNo.out (fun h => (HPl.out.1 h).2.1 ⟨hneg, .inl hop⟩)
          have eop : (i.op != 0) = true := by simpa using hop
          go_wp2_with fail
          go_ret
          exact ⟨false, rfl, HkW.out, HF.out⟩
        have eop : (i.op != 0) = false := by simpa using hop
        by_cases hpre : 0 < i.pre.length
        · have HF : Hid (SaysAsm p a false) := HNo.out (fun h => (HPl.out.1 h).2.1 ⟨hneg, .inr hpre⟩)
          have epr : decide (0 < i.pre.length) = true := by simpa using hpre
          have epr' : decide ((0 : Int) < (i.pre.length : Int)) = true := by simp; omega
          go_wp2_with fail
          go_ret
          exact ⟨false, rfl, HkW.out, HF.out⟩
        have epr : decide (0 < i.pre.length) = false := by simpa using hpre
        have epr' : decide ((0 : Int) < (i.pre.length : Int)) = false := decide_eq_false (by omega)
        have HP2 : Hid (placeOk p f h i m = true ↔ (m.length : Int) = n ∧ m.all valOk = true) := ⟨fun h => (HPl.out.1 h).2.2, fun h' => HPl.out.2 ⟨hai, by rintro ⟨-, h | h⟩; exact h hop; exact hpre h, h'.1, h'.2⟩⟩
        subst hn0
        clear hop hpre hneg hadd h08 HPl Hn hai
        by_cases hmn : (m.length : Int) = 0
        case neg =>
          have HF : Hid (SaysAsm p a false) := HNo.out (fun h => hmn (HP2.out.1 h).1)
          have emn : ((m.length : Int) != 0) = true := by simpa using hmn
          clear hmn
          go_wp2_with fail
          go_ret
          exact ⟨false, rfl, HkW.out, HF.out⟩
        have emn : ((m.length : Int) != 0) = false := by simpa using hmn
        have HP3 : Hid (placeOk p f h i m = true ↔ m.all valOk = true) := ⟨fun h => (HP2.out.1 h).2, fun h' => HP2.out.2 ⟨hmn, h'⟩⟩
        clear hmn HP2
        go_wp2_with fail
        clear vh zv zi i0 i1 b0 b2 zb a0 za m0 zm emn
        go_loopg [10] (m.length) (fun g ix wv => ∃ q : Nat, q ≤ m.length ∧ ix = .int .i64 q ∧ m.length ≤ q + g ∧ Below w2.heap.size w2 wv ∧ ∀ j (hj : j < m.length), j < q → valOk m[j] = true)
        case atStart => exact ⟨0, Nat.zero_le _, rfl, by omega, Below.refl _ _, fun j _ hj => by omega⟩
        case round =>
          obtain ⟨q, hq, rfl, hqg, hbv, hallv⟩ := hrel
          have Hbv : Hid (Below w2.heap.size w2 wr) := hbv
          have Hallv : Hid (∀ j (hj : j < m.length), j < q → valOk m[j] = true) := hallv
          have HBW : Hid (Below W.heap.size W wr) := HB2.out.trans (hbv.mono HB2.out.size)
          obtain ⟨-, kb, -, -, -, -, -, -⟩ := HW.out wr HBW.out
          have b2 := kb.at2
          have zb := kb.1
          obtain ⟨m0, zm, hmr⟩ := HCM2.out wr Hbv.out
          clear hbv hallv kb
          by_cases hqm : q < m.length
          · obtain ⟨bv, offv, rfl, hltv, v0, v1⟩ := hmr.at q hqm
            have HNv : Hid (valOk m[q] = false → SaysAsm p a false) := fun h' => HNo.out (fun h => by have := List.all_eq_true.1 (HP3.out.1 h) _ (List.getElem_mem hqm); rw [h'] at this; cases this)
            obtain ⟨u, Hu⟩ : ∃ u, Hid (u = m[q]) := ⟨m[q], (rfl : m[q] = m[q])⟩
            rw [← Hu.out] at v0 v1 HNv
            clear hmr
            go_wp2_with fail
            refine (specVal u.1 u.2 _).mono ?_
            rintro e w3 ⟨rfl, hb3⟩
            have Hb3 : Hid (Below w2.heap.size w2 w3) := Hbv.out.trans (hb3.mono Hbv.out.size)
            clear hb3 b2 zb m0 zm v0 v1 hltv
            by_cases hvo : valOk (u.1, u.2) = true
            case neg =>
              rw [Bool.not_eq_true] at hvo
              have HF : Hid (SaysAsm p a false) := HNv.out hvo
              rw [hvo]
              go_wp2_with fail
              go_ret
              exact ⟨false, rfl, HkW.out.trans (Hb3.out.mono HkW.out.size), HF.out⟩
            rw [hvo]
            have Hnx : Hid (∀ j (hj : j < m.length), j < q + 1 → valOk m[j] = true) := fun j hj hjq => if e : j = q then (by subst e; rw [← Hu.out]; exact hvo) else Hallv.out j hj (by omega)
            clear hvo
            go_wp2_with fail
            go_roundg (gk - 1)
            case measure => omega
            case rel => exact ⟨q + 1, by omega, by go_num, by omega, Hb3.out, Hnx.out⟩
          · have HV : Hid (m.all valOk = true) := by
              show m.all valOk = true
              rw [List.all_eq_true]
              intro x hx
              obtain ⟨j, hj, rfl⟩ := List.mem_iff_getElem.1 hx
              exact Hallv.out j hj (by omega)
            have Hnext : Hid (∀ j, j < k + 1 → placeOk p f (hs'.getD j 0) (a.code.getD j default) (a.maps.getD j []) = true) := HYes.out (HP3.out.2 HV.out)
            go_wp2_with fail
            go_roundg (G - 1)
            case measure => have := HG.out; omega
            case rel => exact ⟨k + 1, by omega, by go_num, (by have := HG.out; omega), HBW.out, Hnext.out⟩
      · have hn0 : n = L + h := by rw [Hn.out, if_pos (by omega)]
        have dh : decide (h < 0) = false := by simpa using hneg
        have dh' : decide (0 ≤ h) = true := decide_eq_true (by omega)
        have hadd' := hadd (by omega)
        have HP2 : Hid (placeOk p f h i m = true ↔ (m.length : Int) = n ∧ m.all valOk = true) := ⟨fun h => (HPl.out.1 h).2.2, fun h' => HPl.out.2 ⟨hai, fun h => hneg h.1, h'.1, h'.2⟩⟩
        subst hn0
        clear hneg hadd h08 HPl Hn hai
        go_upto_region 12 with fail
        go_quiet (fail)
        by_cases hmn : (m.length : Int) = (L + h)
        case neg =>
          have HF : Hid (SaysAsm p a false) := HNo.out (fun h => hmn (HP2.out.1 h).1)
          have emn : ((m.length : Int) != (L + h)) = true := by simpa using hmn
          clear hmn
          go_wp2_with fail
          go_ret
          exact ⟨false, rfl, below_drewN HkW.out _, HF.out⟩
        have emn : ((m.length : Int) != (L + h)) = false := by simpa using hmn
        have HP3 : Hid (placeOk p f h i m = true ↔ m.all valOk = true) := ⟨fun h => (HP2.out.1 h).2, fun h' => HP2.out.2 ⟨hmn, h'⟩⟩
        clear hmn HP2
        go_wp2_with fail
        clear vh zv zi i0 i1 b0 b2 zb a0 za m0 zm emn
        go_loopg [10] (m.length) (fun g ix wv => ∃ q : Nat, q ≤ m.length ∧ ix = .int .i64 q ∧ m.length ≤ q + g ∧ Below w2.heap.size w2 wv ∧ ∀ j (hj : j < m.length), j < q → valOk m[j] = true)
        case atStart => exact ⟨0, Nat.zero_le _, rfl, by omega, below_drewN (Below.refl _ _) _, fun j _ hj => by omega⟩
        case round =>
          obtain ⟨q, hq, rfl, hqg, hbv, hallv⟩ := hrel
          have Hbv : Hid (Below w2.heap.size w2 wr) := hbv
          have Hallv : Hid (∀ j (hj : j < m.length), j < q → valOk m[j] = true) := hallv
          have HBW : Hid (Below W.heap.size W wr) := HB2.out.trans (hbv.mono HB2.out.size)
          obtain ⟨-, kb, -, -, -, -, -, -⟩ := HW.out wr HBW.out
          have b2 := kb.at2
          have zb := kb.1
          obtain ⟨m0, zm, hmr⟩ := HCM2.out wr Hbv.out
          clear hbv hallv kb
          by_cases hqm : q < m.length
          · obtain ⟨bv, offv, rfl, hltv, v0, v1⟩ := hmr.at q hqm
            have HNv : Hid (valOk m[q] = false → SaysAsm p a false) := fun h' => HNo.out (fun h => by have := List.all_eq_true.1 (HP3.out.1 h) _ (List.getElem_mem hqm); rw [h'] at this; cases this)
            obtain ⟨u, Hu⟩ : ∃ u, Hid (u = m[q]) := ⟨m[q], (rfl : m[q] = m[q])⟩
            rw [← Hu.out] at v0 v1 HNv
            clear hmr
            go_wp2_with fail
            refine (specVal u.1 u.2 _).mono ?_
            rintro e w3 ⟨rfl, hb3⟩
            have Hb3 : Hid (Below w2.heap.size w2 w3) := Hbv.out.trans (hb3.mono Hbv.out.size)
            clear hb3 b2 zb m0 zm v0 v1 hltv
            by_cases hvo : valOk (u.1, u.2) = true
            case neg =>
              rw [Bool.not_eq_true] at hvo
              have HF : Hid (SaysAsm p a false) := HNv.out hvo
              rw [hvo]
              go_wp2_with fail
              go_ret
              exact ⟨false, rfl, HkW.out.trans (Hb3.out.mono HkW.out.size), HF.out⟩
            rw [hvo]
            have Hnx : Hid (∀ j (hj : j < m.length), j < q + 1 → valOk m[j] = true) := fun j hj hjq => if e : j = q then (by subst e; rw [← Hu.out]; exact hvo) else Hallv.out j hj (by omega)
            clear hvo
            go_wp2_with fail
            go_roundg (gk - 1)
            case measure => omega
            case rel => exact ⟨q + 1, by omega, by go_num, by omega, Hb3.out, Hnx.out⟩
          · have HV : Hid (m.all valOk = true) := by
              show m.all valOk = true
              rw [List.all_eq_true]
              intro x hx
              obtain ⟨j, hj, rfl⟩ := List.mem_iff_getElem.1 hx
              exact Hallv.out j hj (by omega)
            have Hnext : Hid (∀ j, j < k + 1 → placeOk p f (hs'.getD j 0) (a.code.getD j default) (a.maps.getD j []) = true) := HYes.out (HP3.out.2 HV.out)
            go_wp2_with fail
            go_roundg (G - 1)
            case measure => have := HG.out; omega
            case rel => exact ⟨k + 1, by omega, by go_num, (by have := HG.out; omega), HBW.out, Hnext.out⟩
    · have HT : Hid (SaysAsm p a true) := HAll.out (fun j hj => Hok.out j (by omega))
      go_wp2_with fail
      go_ret
      exact ⟨true, rfl, kW, HT.out⟩
end Go.Proofs.YtijgonjnmibifaaGreatDoor
