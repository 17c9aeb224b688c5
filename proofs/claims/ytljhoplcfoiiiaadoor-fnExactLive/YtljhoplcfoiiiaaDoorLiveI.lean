/- impl.Live. -/
import Derived.Test.YtljhoplcfoiiiaaDoorUseI
import Derived.Test.YtljhoplcfoiiiaaDoorLeastW
namespace Go.Proofs.YtljhoplcfoiiiaaDoor
open Go.RowKit

/-- what is live in function f, place by place -/
def LiveAns (p : List FnM) (f : Int) (zs : List Nat) : Prop :=
  (RightP p ∧ inL f p.length = true ∧ ∃ hs, HRun p (fnAt p f).code (startH (fnAt p f).code.length) (.inl hs) ∧ LiveIs p (fnAt p f).code (fnAt p f).locals.toNat hs zs) ∨ (¬ (RightP p ∧ inL f p.length = true) ∧ zs = [])

theorem LiveAns.unique {p : List FnM} {f : Int} {zs zs' : List Nat} (h : LiveAns p f zs) (k : LiveAns p f zs') : zs = zs' := by
  rcases h with ⟨a, b, hs, c, d⟩ | ⟨a, b⟩
  · rcases k with ⟨_, _, hs', c', d'⟩ | ⟨a', _⟩
    · have e : hs = hs' := by simpa using c.unique c'
      subst e
      exact d.unique d'
    · exact absurd ⟨a, b⟩ a'
  · rcases k with ⟨a', b', _⟩ | ⟨_, b'⟩
    · exact absurd ⟨a', b'⟩ a
    · rw [b, b']

def LiveTold (p : List FnM) (f : Int) (w w' : World) (e : Ending) : Prop := ∃ u zs, e = .returned u ∧ OwnV w.heap.size w' u (nats zs) ∧ LiveAns p f zs ∧ Below w.heap.size w w'

theorem Fun8.nx_range {p : List FnM} {c : List (Int × Int)} {L : Nat} {hs : List Int} (F : Fun8 p c L hs) (a : Nat) (ha : a < c.length) (t : Int) (ht : t ∈ nxM c hs a) : 0 ≤ t ∧ t < c.length := by
  unfold nxM at ht
  split at ht
  · rename_i h0
    have := F.next a ha h0 t ht
    omega
  · simp at ht

theorem RowsTo.low {U U' : Nat} {wr : World} {n q : Nat} {nx : Nat → List Int} {gs : List Value} (h : RowsTo U wr n q nx gs) (hU : U' ≤ U) : RowsTo U' wr n q nx gs := ⟨h.1, fun j hj => (h.2 j hj).lower hU⟩

set_option maxRecDepth 100000 in
set_option maxHeartbeats 1600000 in
theorem implUseLive (nx : Nat → List Int) (rd wf : Nat → Nat) (n gb rb wb : Nat) (gs : List Value) (w : World) (hn1 : 1 ≤ n) (hn2 : n ≤ 60)
    (hG : VRow w gb gs) (hR : RowsTo 0 w n n nx gs) (hr : VRow w rb (ints (nats (tabN n n rd)))) (hw : VRow w wb (ints (nats (tabN n n wf))))
    (hrd : ∀ a, a < n → rd a < 65536) (hwr : ∀ a, a < n → wf a < 65536) (hnx : ∀ a, a < n → ∀ t ∈ nx a, 0 ≤ t ∧ t < n) :
    Calls Tryd.prog 35 #[.agg #[.slice (some ⟨rb, 0, none⟩) n n, .slice (some ⟨wb, 0, none⟩) n n, .slice (some ⟨gb, 0, none⟩) n n]] w fun e w' => LeastTold nx rd (kpOf wf) n w w' e := by
  have hal : Below w.heap.size w (w.alloc (.cells #[.slice (some ⟨rb, 0, none⟩) n n, .slice (some ⟨wb, 0, none⟩) n n, .slice (some ⟨gb, 0, none⟩) n n] 51)) := (Below.refl _ _).alloc (Nat.le_refl _) _
  have hc := implLeast nx rd wf n gb rb wb gs _ hn1 hn2 (hG.below hal) (hR.below hal) (hr.below hal) (hw.below hal) hrd hwr hnx
  have Hal : Hid (Below w.heap.size w (w.alloc _)) := hal
  have Hc : Hid (Calls _ _ _ _ _) := hc
  clear hG hR hr hw hrd hwr hnx hal hc
  go_enter Tryd.func35, Tryd.ntmps35
  go_wp2_with fail
  refine Calls.mono (R := fun e w' => LeastTold nx rd (kpOf wf) n _ w' e) Hc.out ?_
  rintro e w1 ⟨u, zs, rfl, hu, ha, hb⟩
  have HO : Hid (OwnV w.heap.size w1 u (nats zs)) := hu.lower (by simp)
  have Hb : Hid (Below w.heap.size w w1) := Hal.out.trans (hb.mono (by simp))
  have HA : Hid (AskedIs nx rd (kpOf wf) n zs) := ha
  obtain ⟨A, cap, rfl⟩ := hu.form
  clear hu ha hb
  go_wp2_with fail
  go_ret
  exact ⟨_, zs, rfl, HO.out, HA.out, Hb.out⟩

set_option maxRecDepth 100000 in
set_option maxHeartbeats 3200000 in
theorem implLive (v : Value) (p : List FnM) (f : Int) (w : World) (ht : Tab w) (hr : FnRow 0 w v p) :
    Calls Tryd.prog 15 #[.agg #[v], .int .i64 f] w fun e w' => LiveTold p f w w' e := by
  have Hr : Hid (FnRow 0 w v p) := hr
  have Ht : Hid (Tab w) := ht
  have hlen := hr.len
  obtain ⟨A, cap, rfl⟩ := hr.form
  clear hr ht
  have X0 : Hid (Box _ w.heap.size #[.slice A p.length cap]) := box_new w #[.slice A p.length cap] 25
  have X2 : Hid (Below w.heap.size w (w.alloc (.cells #[.slice A p.length cap] 25))) := (Below.refl _ _).alloc (Nat.le_refl _) _
  go_enter Tryd.func15, Tryd.ntmps15
  go_wp2_with fail
  refine (implIn _ p f _ (Ht.out.below X2.out) (Hr.out.below X2.out)).mono ?_
  rintro e w1 ⟨b, rfl, hb1, hiff⟩
  have Hb1 : Hid (Below w.heap.size w w1) := X2.out.trans (hb1.mono X2.out.size)
  have HB : Hid (Box w1 w.heap.size #[.slice A p.length cap]) := X0.out.below hb1
  have c0 := HB.out.at0
  have cz := HB.out.1
  clear hb1 X0 X2
  cases b with
  | false =>
    have HA : Hid (LiveAns p f []) := .inr ⟨fun h => by simpa using hiff.2 h, rfl⟩
    clear hiff
    go_wp2_with fail
    go_ret
    exact ⟨_, [], rfl, OwnV.nil _ _ _ _, HA.out, Hb1.out⟩
  | true =>
    obtain ⟨hright, hin⟩ := hiff.1 rfl
    have hin' : 0 ≤ f ∧ f < p.length := by simpa [inL] using hin
    obtain ⟨k, rfl⟩ := Int.eq_ofNat_of_zero_le hin'.1
    have hk : k < p.length := by omega
    obtain ⟨hs, hrun, hl1, hl2, _, _, _⟩ := hright.heights k hk
    obtain ⟨hL0, hF⟩ := hright.fun8 k hk hrun
    obtain ⟨L, hL⟩ := Int.eq_ofNat_of_zero_le hL0
    have hu := implUse (.slice A p.length cap) p k w1 (Ht.out.below Hb1.out) (Hr.out.below Hb1.out) hright hk L hL hs hrun
    have HAns : Hid (∀ zs, LiveIs p (fnAt p k).code (fnAt p k).locals.toNat hs zs → LiveAns p k zs) := fun zs hz => .inl ⟨hright, hin, hs, hrun, hz⟩
    rw [hL, Int.toNat_natCast] at hF HAns
    obtain ⟨c, hc⟩ : ∃ c, c = (fnAt p k).code := ⟨_, rfl⟩
    rw [← hc] at hF HAns hu
    have HF : Hid (Fun8 p c L hs) := hF
    have Hu : Hid (Calls Tryd.prog 24 #[.agg #[.slice A p.length cap], .int .i64 k] w1 fun e w' => UseTold p c L hs w1 w' e) := hu
    clear hiff hright hin hin' hrun hl1 hl2 hL0 hL hu hc hF
    go_wp2_with fail
    refine Calls.mono (R := fun e w' => UseTold p c L hs w1 w' e) Hu.out ?_
    rintro e w2 ⟨rb, wb, gb, gs, rfl, h1, h2, h3, h4, hb2⟩
    have hm := implUseLive (nxM c hs) (rdM p c L hs) (wrI p c L hs) c.length gb rb wb gs w2 HF.out.one HF.out.top h3 h4 h1 h2 (fun a ha => HF.out.rd_lt ha) (fun a ha => HF.out.wrI_lt ha) (HF.out.nx_range)
    have Hm : Hid (Calls Tryd.prog 35 _ w2 fun e w' => LeastTold (nxM c hs) (rdM p c L hs) (kpOf (wrI p c L hs)) c.length w2 w' e) := hm
    have Hb2 : Hid (Below w.heap.size w w2) := Hb1.out.trans (hb2.mono Hb1.out.size)
    clear h1 h2 h3 h4 hb2 hm c0 cz Hu
    go_wp2_with fail
    refine Calls.mono (R := fun e w' => LeastTold (nxM c hs) (rdM p c L hs) (kpOf (wrI p c L hs)) c.length w2 w' e) Hm.out ?_
    rintro e w3 ⟨u, zs, rfl, hu, ha, hb⟩
    have HO : Hid (OwnV w.heap.size w3 u (nats zs)) := hu.lower Hb2.out.size
    have Hb : Hid (Below w.heap.size w w3) := Hb2.out.trans (hb.mono Hb2.out.size)
    have HA : Hid (LiveAns p k zs) := HAns.out zs (HF.out.liveI ha)
    obtain ⟨A3, cap3, rfl⟩ := hu.form
    clear hu ha hb
    go_wp2_with fail
    go_ret
    exact ⟨_, zs, rfl, HO.out, HA.out, Hb.out⟩
end Go.Proofs.YtljhoplcfoiiiaaDoor
