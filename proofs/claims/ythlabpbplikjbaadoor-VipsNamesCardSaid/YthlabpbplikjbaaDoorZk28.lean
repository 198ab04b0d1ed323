/-
  Which places of a pool's range are reserved, and how many are not: the walk of vips.reserved. Conditions: the laid tables' cells (Ground), the addresses' numbers such as their types bear, a range that may be. A pool that is made: the walk of vips.New. Conditions: the laid tables' cells (Ground), the addresses' numbers such as their types bear. What a pool tells: the walks of Free, Of, Host. Conditions: as each theorem names them. Whose address it is: the walk of Host. Conditions: as each theorem names them. The first free address: the walk of next, a range over hash.Probe. Conditions: the laid tables' cells (Ground).
-/
import Derived.Test.YthlabpbplikjbaaDoorZk27
import Derived.Deep.RegionHeld3
import Derived.Deep.RegionLaw
import Derived.Test.YthlabpbplikjbaaDoorZk17
import Derived.Shelf.RegionOpen
namespace Go.Proofs.YthlabpbplikjbaaDoor
open Go.RowKit Go.Maps
set_option linter.unusedVariables false

/-! ### What is taken is what the runs take -/
theorem runP_iff {r : Ad} {b : Int} {s : Ad} {m : Int} (hf : fitA r) (hs : fitA s) (hr : chkR r b = 0) {i v : Nat} (hi : i < sizeR r b) :
    ((runP r b s m).2.2 = true ∧ (runP r b s m).1 = i ∧ v < (runP r b s m).2.1) ↔ (meetR r b s m = true ∧ (narR r b s m).1 = plR r i ∧ v < sizeR (narR r b s m).1 (narR r b s m).2) := by
  obtain ⟨_, b', rfl, hbw, hhr⟩ := chkR_yes hr
  unfold runP
  by_cases hm : meetR r b' s m = true
  · have hm' : ¬ meetR r b' s m = false := by rw [hm]; decide
    have hsm : chkR s m = 0 := (of_decide_eq_true hm).2.1
    obtain ⟨hcs, m', rfl, hmw, hhs⟩ := chkR_yes hsm
    rw [if_neg hm']
    unfold narR
    have hp0 : plR r 0 = r := rfl
    by_cases hle : (m' : Int) ≤ b'
    · rw [if_pos hle]
      have hfst : (if (m' : Int) < b' then (r, (b' : Int)) else (s, (m' : Int))) = (r, (b' : Int)) := by
        by_cases hlt : (m' : Int) < b'
        · rw [if_pos hlt]
        · rw [if_neg hlt]
          have e : m' = b' := by omega
          subst e
          have h1 := (meet_has hr hsm (Nat.le_refl _)).1
          rw [hm] at h1
          have h2 := (hasR_iff hr).1 h1.symm
          have hk : s.1 = r.1 := by rw [← h2.2]; rfl
          have : s = r := by rw [← h2.2, ← hk]; exact hhs.symm
          rw [this]
      rw [hfst]
      simp only [hm, true_and]
      constructor
      · rintro ⟨rfl, hv⟩; exact ⟨hp0.symm, hv⟩
      · rintro ⟨e, hv⟩; exact ⟨plR_inj (hp0.trans e), hv⟩
    · rw [if_neg hle, if_neg (by omega : ¬ (m' : Int) < b')]
      simp only [hm, true_and]
      by_cases hx : (idxR r b' s).2 = false
      · rw [if_pos hx]
        simp only [Bool.false_eq_true, false_and, false_iff, not_and]
        intro e
        have := idx_place hf hr hi
        rw [show (r.1, r.2.1, r.2.2 + i) = plR r i from rfl, ← e] at this
        rw [this] at hx
        cases hx
      · rw [if_neg hx]
        simp only [true_and]
        constructor
        · rintro ⟨e, hv⟩
          refine ⟨?_, hv⟩
          have hx' : (idxR r b' s).2 = true := by simpa using hx
          unfold idxR at hx' e
          split at hx'
          · cases hx'
          · rename_i hn
            rw [if_neg hn] at e
            dsimp only at e
            have h1 : hasR r b' s = true := by
              cases hh : hasR r b' s
              · exact absurd (.inl hh) hn
              · rfl
            have h2 := (hasR_iff hr).1 h1
            have hk : s.1 = r.1 := by rw [← h2.2]; rfl
            have hhi : s.2.1 = r.2.1 := by
              refine Classical.byContradiction fun hne => hn (.inr (.inl hne))
            obtain ⟨h3, h4, h5, h6, h7⟩ := place hf hr hi
            unfold offR at e
            have hle2 : r.2.2 ≤ s.2.2 := by
              have e1 : cl (kL r.1 b') s.2.2 = r.2.2 := congrArg (fun x : Ad => x.2.2) h2.2
              rw [← e1]
              exact cl_le _ _
            have hsl := hs.2
            obtain ⟨s1, s2, s3⟩ := s
            unfold plR
            simp only at hk hhi hle2 e hsl ⊢
            subst hk hhi
            simp only [Prod.mk.injEq, true_and]
            omega
        · rintro ⟨e, hv⟩
          refine ⟨?_, hv⟩
          have := idx_place hf hr hi
          rw [show (r.1, r.2.1, r.2.2 + i) = plR r i from rfl, ← e] at this
          rw [this]
  · have hm' : meetR r b' s m = false := by simpa using hm
    rw [if_pos hm', hm']
    simp
theorem tak_lt {r : Ad} {b : Int} {L : List (Ad × Int)} (hf : fitA r) (hL : ∀ o ∈ L, fitA o.1) (hr : chkR r b = 0) {i v : Nat} (hi : i < sizeR r b) : v < (takT r b L).getD i 0 ↔ v < runsR r b L (plR r i) := by
  rw [runs_lt]
  unfold takT
  have key : ∀ (L : List (Ad × Int)) (T : List Nat), (∀ o ∈ L, fitA o.1) → T.length = sizeR r b → (v < (L.foldl (stepT r b) T).getD i 0 ↔ v < T.getD i 0 ∨ ∃ o ∈ L, meetR r b o.1 o.2 = true ∧ (narR r b o.1 o.2).1 = plR r i ∧ v < sizeR (narR r b o.1 o.2).1 (narR r b o.1 o.2).2) := by
    intro L
    induction L with
    | nil => intro T _ _; simp
    | cons o L ih =>
      intro T hL hT
      rw [List.foldl_cons, ih _ (fun x hx => hL x (List.mem_cons_of_mem _ hx)) (by rw [stepT_len, hT])]
      simp only [List.mem_cons, exists_eq_or_imp]
      rw [← or_assoc, ← runP_iff hf (hL o List.mem_cons_self) hr hi]
      refine or_congr ?_ Iff.rfl
      unfold stepT
      by_cases hs : (runP r b o.1 o.2).2.2 = true
      · rw [if_pos hs]
        simp only [hs, true_and]
        rw [List.getD_eq_getElem?_getD, List.getElem?_set, List.getD_eq_getElem?_getD]
        by_cases he : (runP r b o.1 o.2).1 = i
        · rw [if_pos he, if_pos (by omega)]
          simp only [Option.getD_some]
          rw [List.getD_eq_getElem?_getD, he]
          generalize (runP r b o.1 o.2).2.1 = l
          generalize (T[i]?.getD 0) = y
          simp only [true_and]
          omega
        · rw [if_neg he]
          simp [he]
      · rw [if_neg hs]
        simp [hs]
  rw [key L _ hL (by rw [List.length_replicate])]
  rw [List.getD_eq_getElem?_getD, List.getElem?_replicate, if_pos hi]
  simp
theorem tak_eq {r : Ad} {b : Int} {L : List (Ad × Int)} (hf : fitA r) (hL : ∀ o ∈ L, fitA o.1) (hr : chkR r b = 0) {i : Nat} (hi : i < sizeR r b) : (takT r b L).getD i 0 = runsR r b L (plR r i) := by
  have h1 := fun v => tak_lt (v := v) hf hL hr hi
  have a := h1 ((takT r b L).getD i 0)
  have c := h1 (runsR r b L (plR r i))
  omega

/-! ### The row of places -/
def shF (m : Nat → Nat) (k z : Nat) : List Bool := (List.range z).map fun i => decide (i < k ∧ i < endF m (i + 1))
theorem shF_set (m : Nat → Nat) {k z : Nat} (h : k < z) : (shF m k z).set k (decide (k < endF m (k + 1))) = shF m (k + 1) z := by
  apply List.ext_getElem?
  intro i
  unfold shF
  rw [List.getElem?_set]
  simp only [List.length_map, List.length_range, List.getElem?_map]
  by_cases e : k = i
  · subst e
    rw [if_pos rfl, if_pos h, List.getElem?_range h]
    simp
  · rw [if_neg e]
    rcases Nat.lt_or_ge i z with hi | hi
    · rw [List.getElem?_range hi]
      simp only [Option.map_some, Option.some.injEq, decide_eq_decide]
      omega
    · rw [List.getElem?_eq_none (by simpa using hi)]
      rfl
def boolC (l : List Bool) : Array Value := (l.map Value.bool).toArray
theorem boolC_set (l : List Bool) (i : Nat) (v : Bool) : (boolC l).setIfInBounds i (.bool v) = boolC (l.set i v) := by
  unfold boolC
  rw [List.setIfInBounds_toArray, List.map_set]
theorem shF_zero (m : Nat → Nat) (z : Nat) : boolC (shF m 0 z) = Array.replicate z (.bool false) := by
  unfold boolC shF
  apply Array.toList_inj.1
  rw [Array.toList_replicate]
  simp only [List.map_map]
  rw [List.eq_replicate_iff]
  refine ⟨by simp, fun x hx => ?_⟩
  obtain ⟨i, _, rfl⟩ := List.mem_map.1 hx
  simp
theorem endF_le2 {m : Nat → Nat} (hm : ∀ i, m i ≤ 65536) (k : Nat) : endF m k ≤ k + 65536 := endF_le.2 fun i hi => by have := hm i; omega
theorem PoolD.shut_eq {p : PoolD} (h : p.Ok) {m : Nat → Nat} (hm : ∀ i, i < p.sz → m i = runsR p.r p.b p.R (plR p.r i)) : shF m p.sz p.sz = p.shut ∧ cntF m p.sz = p.room := by
  have hc := cntF_congr (m := m) (m' := fun i => runsR p.r p.b p.R (plR p.r i))
  constructor
  · unfold shF PoolD.shut
    apply List.map_congr_left
    intro i hi
    have hi' := List.mem_range.1 hi
    have e := (hc (i + 1) fun j hj => hm j (by omega)).1
    rw [e]
    have hl := left_iff h.fit h.fits h.chk hi'
    have hg := endF_ge (m := fun i => runsR p.r p.b p.R (plR p.r i)) i
    rw [Bool.eq_iff_iff, decide_eq_true_iff]
    have hok : okP p.r p.R i = true ↔ ∀ o ∈ p.R, hasR o.1 o.2 (plR p.r i) = false := by
      unfold okP
      rw [List.all_eq_true]
      simp
    rw [Bool.not_eq_true', ← Bool.not_eq_true, hok, ← hl]
    omega
  · unfold PoolD.room
    rw [free_cnt h.fit h.fits]
    exact (hc p.sz hm).2
/-- What reserved hands back. -/
def ResOut (p : PoolD) (w : World) (e : Ending) (w' : World) : Prop := ∃ g, e = .returned (.tuple #[.slice (some ⟨g, 0, none⟩) p.sz p.sz, .int .i64 (p.room : Int)]) ∧ w.heap.size ≤ g ∧ Lies w' g 4 (boolC p.shut) ∧ Below w.heap.size w w'

def ResRel (z : Nat) (m : Nat → Nat) (w : World) (g gT : Nat) (T : List Nat) (v3 v5 v15 : Value) (wr : World) : Prop :=
  ∃ k : Nat, v15 = .int .i64 (k : Nat) ∧ k ≤ z ∧ v5 = .int .i64 (endF m k : Nat) ∧ v3 = .int .i64 (cntF m k : Nat) ∧ Bx w wr [(g, 4, boolC (shF m k z)), (gT, 3, intC T)]
set_option maxHeartbeats 8000000 in
set_option maxRecDepth 100000 in
theorem vreserved_any {p : PoolD} {v : Value} {w : World} (hG : Ground w) (ho : p.Ok) (hrow : RgRow w v p.R) :
    Calls Tryd.prog 24 #[pv p v] w (ResOut p w) := by
  obtain ⟨z, hz⟩ : ∃ z, p.sz = z := ⟨_, rfl⟩
  obtain ⟨T, hT⟩ : ∃ T, takT p.r p.b p.R = T := ⟨_, rfl⟩
  have hTl : T.length = z := by rw [← hT, takT_len]; exact hz
  have hTm : ∀ i, T.getD i 0 ≤ 65536 := by rw [← hT]; exact takT_le _ _ _
  have hsh := PoolD.shut_eq ho (m := fun i => T.getD i 0) (fun i hi => by rw [← hT]; exact tak_eq ho.fit ho.fits ho.chk hi)
  have hz1 := ho.pos
  rw [hz] at hz1 hsh
  have HR := Lib.hid (fun wx (hb : Below w.heap.size w wx) => vruns_any (p := p) (v := v) (w := wx) (hG.next hb) ho.fit ho.chk (hrow.below hb))
  obtain ⟨m, hm⟩ : ∃ m : Nat → Nat, m = fun i => T.getD i 0 := ⟨_, rfl⟩
  rw [← hm] at hsh
  have HE : Hid (∀ k, endF m k ≤ k + 65536) := Lib.hid (endF_le2 (by rw [hm]; exact hTm))
  have HSh : Hid (boolC (shF m z z) = boolC p.shut) := Lib.hid (by rw [hsh.1])
  have HCn : Hid (cntF m z = p.room) := Lib.hid hsh.2
  have HGet : Hid (∀ i, i < z → (intC T)[i]? = some (.int .i64 ((m i : Nat) : Int))) := Lib.hid fun i hi => by rw [hm]; exact intC_get (by omega)
  have HMl : Hid (∀ i, m i ≤ 65536) := Lib.hid (by rw [hm]; exact hTm)
  have HZT : Hid (sizeR p.r p.b = z ∧ takT p.r p.b p.R = T) := Lib.hid ⟨hz, hT⟩
  have hmk := fun wx => make_boolsV wx z hz1.2
  have HB1 : Hid (Bx w (w.alloc (.cells #[.bool p.r.1, .int .u64 (p.r.2.1 : Int), .int .u64 (p.r.2.2 : Int), .int .i64 p.b, v] 34)) []) := Lib.hid ((Bx.start w).alloc _)
  have c0 : (w.alloc (.cells #[.bool p.r.1, .int .u64 (p.r.2.1 : Int), .int .u64 (p.r.2.2 : Int), .int .i64 p.b, v] 34)).heap.size = w.heap.size + 1 := World.size_alloc _ _
  have HPO : Hid (∀ g wx, w.heap.size ≤ g → Lies wx g 4 (boolC p.shut) → Below w.heap.size w wx → ResOut p w (.returned (.tuple #[.slice (some ⟨g, 0, none⟩) z z, .int .i64 (cntF m z : Nat)])) wx) := Lib.hid fun g wx h1 h2 h3 => ⟨g, by rw [hsh.2, hz], h1, h2, h3⟩
  obtain ⟨Post, hPost⟩ : ∃ Post, Post = ResOut p w := ⟨_, rfl⟩
  rw [← hPost] at HPO ⊢
  clear hsh hm hTl hTm hz hT hrow hG ho hPost
  unfold pv at HR ⊢
  go_enter Tryd.func24, Tryd.ntmps24
  go_wp2_with ((go_at_call 44; (with_reducible refine (HR.out _ HB1.out.bel).mono ?_); rintro e w1 ⟨gT, rfl, hge, hli, hb⟩; have HS := Lib.hid ((HB1.out.next hb).add hli); clear hb hli; rw [HZT.out.1]; have hm1 := hmk w1; have HR0 : Hid (ResRel z m w w1.heap.size gT T (.int .i64 0) (.int .i64 0) (.int .i64 0) (w1.alloc (.cells (Array.replicate z (.bool false)) 4))) := Lib.hid ⟨0, rfl, Nat.zero_le _, rfl, rfl, by rw [shF_zero, ← HZT.out.2]; exact HS.out.more _ _⟩))
  have hgT : gT < w1.heap.size := (HS.out.at List.mem_cons_self).lt
  have hgw : w.heap.size ≤ w1.heap.size := HS.out.bel.size
  obtain ⟨g, hg⟩ : ∃ g, g = w1.heap.size := ⟨_, rfl⟩
  rw [← hg] at HR0 hgT hgw ⊢
  clear hmk hm1 hg HS
  go_loopw [3, 5, 15] (fun v3 v5 v15 wr => ResRel z m w g gT T v3 v5 v15 wr) (fun _ _ v15 _ => z - (intOf v15).toNat)
  case atStart => exact HR0.out
  case round =>
    clear HR0
    obtain ⟨k, rfl, hk, rfl, rfl, hS⟩ := hrel
    have HS := Lib.hid hS
    clear hS
    rcases Nat.lt_or_ge k z with hlt | hge'
    · have hkI : (k : Int) < (z : Int) := by omega
      have HKL : Hid (k + 1 ≤ z) := Lib.hid hlt
      have c1 : wr.cell? ⟨gT, k, none⟩ = some (.int .i64 ((m k : Nat) : Int)) := (Lies.cell (HS.out.tail.at List.mem_cons_self) k).trans (HGet.out k hlt)
      have HN : Hid ((boolC (shF m k z)).setIfInBounds k (.bool (decide (k < endF m (k + 1)))) = boolC (shF m (k + 1) z)) := Lib.hid (by rw [boolC_set, shF_set m hlt])
      have hsz : k < (boolC (shF m k z)).size := by unfold boolC shF; simpa using hlt
      have hb0 : ∃ u, (boolC (shF m k z))[k]? = some u := ⟨_, Array.getElem?_eq_getElem hsz⟩
      obtain ⟨u0, hu0⟩ := hb0
      have c2 : wr.cell? ⟨g, k, none⟩ = some u0 := (Lies.cell (HS.out.at List.mem_cons_self) k).trans hu0
      have c3 : wr.frozen? ⟨g, k, none⟩ = false := Lies.free (HS.out.at List.mem_cons_self) k
      have hEk := HE.out k
      have hml := HMl.out k
      have hge2 := endF_ge (m := m) k
      have HCe : Hid (cntF m (k + 1) = cntF m k + (if endF m (k + 1) = k then 1 else 0)) := Lib.hid rfl
      have hcl := cntF_le (m := m) k
      obtain ⟨e1, he1⟩ : ∃ e1, endF m (k + 1) = e1 := ⟨_, rfl⟩
      obtain ⟨e0, he0⟩ : ∃ e0, endF m k = e0 := ⟨_, rfl⟩
      obtain ⟨q, hq⟩ : ∃ q, m k = q := ⟨_, rfl⟩
      obtain ⟨cn, hcn⟩ : ∃ cn, cntF m k = cn := ⟨_, rfl⟩
      have hmax : max (e0 : Int) ((k : Int) + (q : Int)) = (e1 : Int) := by
        have : endF m (k + 1) = max (endF m k) (k + m k) := rfl
        omega
      rw [hq] at c1 hml
      rw [he0] at hEk ⊢
      rw [he1] at hge2 HN HCe
      rw [hcn] at HCe hcl ⊢
      have HE1 : Hid (endF m (k + 1) = e1) := Lib.hid he1
      have HSZ := Lib.hid hsz
      clear he1 he0 hq hcn hu0 hsz
      have HSet : Hid (∀ v, Bx w (wr.setCell ⟨g, k, none⟩ v) [(g, 4, (boolC (shF m k z)).setIfInBounds k v), (gT, 3, intC T)]) := Lib.hid fun v => HS.out.store (by intro x hx; rw [List.mem_singleton] at hx; subst hx; simp only; omega) (by omega) k v
      have HGt : Hid (∀ v, (wr.setCell ⟨g, k, none⟩ v).cell? ⟨g, k, none⟩ = some v) := Lib.hid fun v => (Lies.cell ((HSet.out v).at List.mem_cons_self) k).trans (by
        have hsz := HSZ.out
        simp [hsz])
      by_cases hke : k < e1
      · have hd : decide (k < e1) = true := by simpa using hke
        have hdI : decide ((k : Int) < (e1 : Int)) = true := by simpa using hke
        have hg1 := HGt.out (.bool true)
        rw [hd] at HN
        have HCe' : Hid (cntF m (k + 1) = cn) := Lib.hid (by rw [HCe.out, if_neg (by omega)]; rfl)
        clear HCe
        go_wp2
        go_roundw
        case rel => exact ⟨k + 1, by go_num, HKL.out, by rw [HE1.out], by rw [HCe'.out], by rw [← HN.out]; exact HSet.out _⟩
        case measure => simp [intOf]; omega
      · have hd : decide (k < e1) = false := by simpa using hke
        have hdI : decide ((k : Int) < (e1 : Int)) = false := by simpa using hke
        have hg1 := HGt.out (.bool false)
        rw [hd] at HN
        have HCe' : Hid (cntF m (k + 1) = cn + 1) := Lib.hid (by rw [HCe.out, if_pos (by omega)])
        clear HCe
        go_wp2
        go_roundw
        case rel => exact ⟨k + 1, by go_num, HKL.out, by rw [HE1.out], by rw [HCe'.out]; go_num, by rw [← HN.out]; exact HSet.out _⟩
        case measure => simp [intOf]; omega
    · obtain rfl : k = z := by omega
      go_wp2
      have hq := HPO.out g wr hgw (by rw [← HSh.out]; exact HS.out.at List.mem_cons_self) HS.out.bel
      exact hq
end Go.Proofs.YthlabpbplikjbaaDoor
namespace Go.Proofs.YthlabpbplikjbaaDoor
open Go.RowKit Go.Maps
set_option linter.unusedVariables false

theorem chkP_ok {p : PoolD} (h : chkP p = 0) (hf : fitA p.r) (hfs : ∀ o ∈ p.R, fitA o.1) : p.Ok := by
  unfold chkP at h
  split at h
  · rename_i h1; exact ⟨hf, h1.1, hfs⟩
  · cases h
theorem Lies.setOther {w : World} {g g' j : Nat} {t : TypeId} {cs : Array Value} (h : Lies w g t cs) (hne : g ≠ g') (v : Value) : Lies (w.setCell ⟨g', j, none⟩ v) g t cs := by
  unfold Lies at *
  rw [heap_setCell_other _ _ _ _ hne]
  exact h
theorem MapE.setOther {P : Program} {k : TypeId} {w : World} {b g' j : Nat} {E : List (Value × Value)} (h : MapE P k w b E) (hne : b ≠ g') (v : Value) : MapE P k (w.setCell ⟨g', j, none⟩ v) b E := h.same (heap_setCell_other _ _ _ _ hne)
theorem new_world {w2 : World} {gs : Nat} {tb t : TypeId} {l cs : Array Value} (h : Lies w2 gs tb l) (X : World) (hX : X = ((w2.alloc (.map #[] 0)).alloc (.map #[] 0)).alloc (.cells cs t)) :
    Lies X gs tb l ∧ MapE Tryd.prog 39 X w2.heap.size [] ∧ MapE Tryd.prog 29 X (w2.heap.size + 1) [] ∧ Lies X (w2.heap.size + 1 + 1) t cs ∧ Below w2.heap.size w2 X := by
  subst hX
  have m1 := MapE.new Tryd.prog 39 w2
  have m2 := MapE.new Tryd.prog 29 (w2.alloc (.map #[] 0))
  have l3 := Lies.new ((w2.alloc (.map #[] 0)).alloc (.map #[] 0)) t cs
  simp only [World.size_alloc] at m2 l3
  exact ⟨((h.alloc _).alloc _).alloc _, (m1.alloc _).alloc _, m2.alloc _, l3, (((Below.refl _ _).alloc (Nat.le_refl _) _).alloc (by simp) _).alloc (by simp; omega) _⟩
/-- What New hands back: a pool that has given nothing. -/
def NewOut (p : PoolD) (w : World) (e : Ending) (w' : World) : Prop := ∃ B : PB, e = .returned (.tuple #[.pointer (some ⟨B.g, 0, none⟩), .int .i64 0]) ∧ PoolAt w' B p [] ∧ (w.heap.size ≤ B.g ∧ w.heap.size ≤ B.s ∧ w.heap.size ≤ B.a ∧ w.heap.size ≤ B.h) ∧ B.a ≠ B.h ∧ Below w.heap.size w w'
set_option maxHeartbeats 4000000 in
set_option maxRecDepth 100000 in
theorem vNew_ok {p : PoolD} {v : Value} {w : World} (hG : Ground w) (hf : fitA p.r) (hrow : RgRow w v p.R) (hc : chkP p = 0) :
    Calls Tryd.prog 8 #[pv p v] w (NewOut p w) := by
  have ho := Lib.hid (chkP_ok hc hf hrow.fits)
  have HC := Lib.hid (fun wx (hb : Below w.heap.size w wx) => vCheck_any (p := p) (v := v) (w := wx) (hG.next hb) hf (hrow.below hb))
  have HR := Lib.hid (fun wx (hb : Below w.heap.size w wx) => vreserved_any (p := p) (v := v) (w := wx) (hG.next hb) ho.out (hrow.below hb))
  rw [hc] at HC
  have HS := Lib.hid ((Bx.start w).more 34 #[.bool p.r.1, .int .u64 (p.r.2.1 : Int), .int .u64 (p.r.2.2 : Int), .int .i64 p.b, v])
  have hmm := @run_makeMap Tryd.prog
  obtain ⟨Post, hPost⟩ : ∃ Post, Post = NewOut p w := ⟨_, rfl⟩
  have HP : Hid (∀ (gs ga gh g : Nat) wx, Lies wx gs 4 (boolC p.shut) → MapE Tryd.prog 39 wx ga [] → MapE Tryd.prog 29 wx gh [] → Lies wx g 73 (poolC p ⟨g, gs, ga, gh⟩) → w.heap.size ≤ gs → gs < ga → ga < gh → gh < g → Below w.heap.size w wx → Post (.returned (.tuple #[.pointer (some ⟨g, 0, none⟩), .int .i64 0])) wx) := Lib.hid fun gs ga gh g wx h1 h2 h3 h4 l1 l2 l3 l4 hb => by
    rw [hPost]
    exact ⟨⟨g, gs, ga, gh⟩, rfl, ⟨h4, h1, h2, h3, ho.out, PoolD.Wf.nil p⟩, ⟨by simp only; omega, by simp only; omega, by simp only; omega, by simp only; omega⟩, by simp only; omega, hb⟩
  obtain ⟨z, hz⟩ : ∃ z, p.sz = z := ⟨_, rfl⟩
  obtain ⟨rm, hrm⟩ : ∃ rm, p.room = rm := ⟨_, rfl⟩
  have HZ := Lib.hid (And.intro hz hrm)
  rw [← hPost]
  clear hPost hrow hf hG hc hz hrm
  unfold pv at HC HR ⊢
  go_enter Tryd.func8, Tryd.ntmps8
  go_wp2_with (first | (go_at_call 19; (with_reducible refine (HC.out _ HS.out.bel).mono ?_); rintro e w1 ⟨rfl, hb⟩; replace HS := Lib.hid (HS.out.next hb); clear hb; have c0 : w1.cell? ⟨w.heap.size, 0, none⟩ = some (.bool p.r.1) := Lies.cell (HS.out.at List.mem_cons_self) 0; have c1 : w1.cell? ⟨w.heap.size, 1, none⟩ = some (.int .u64 (p.r.2.1 : Int)) := Lies.cell (HS.out.at List.mem_cons_self) 1; have c2 : w1.cell? ⟨w.heap.size, 2, none⟩ = some (.int .u64 (p.r.2.2 : Int)) := Lies.cell (HS.out.at List.mem_cons_self) 2; have c3 : w1.cell? ⟨w.heap.size, 3, none⟩ = some (.int .i64 p.b) := Lies.cell (HS.out.at List.mem_cons_self) 3; have c4 : w1.cell? ⟨w.heap.size, 4, none⟩ = some v := Lies.cell (HS.out.at List.mem_cons_self) 4) | (go_at_call 24; (with_reducible refine (HR.out _ HS.out.bel).mono ?_); rintro e w2 ⟨gs, rfl, hge, hli, hb⟩; have hw1 := HS.out.bel.size; replace HS := Lib.hid ((HS.out.next hb).add hli); clear hb hli c0 c1 c2 c3 c4; rw [HZ.out.1, HZ.out.2]; have c0 : w2.cell? ⟨w.heap.size, 0, none⟩ = some (.bool p.r.1) := Lies.cell (HS.out.tail.at List.mem_cons_self) 0; have c1 : w2.cell? ⟨w.heap.size, 1, none⟩ = some (.int .u64 (p.r.2.1 : Int)) := Lies.cell (HS.out.tail.at List.mem_cons_self) 1; have c2 : w2.cell? ⟨w.heap.size, 2, none⟩ = some (.int .u64 (p.r.2.2 : Int)) := Lies.cell (HS.out.tail.at List.mem_cons_self) 2; have c3 : w2.cell? ⟨w.heap.size, 3, none⟩ = some (.int .i64 p.b) := Lies.cell (HS.out.tail.at List.mem_cons_self) 3))
  obtain ⟨X, hX⟩ : ∃ X, X = ((w2.alloc (.map #[] 0)).alloc (.map #[] 0)).alloc (.cells #[.bool p.r.1, .int .u64 (p.r.2.1 : Int), .int .u64 (p.r.2.2 : Int), .int .i64 p.b, .slice (some ⟨gs, 0, none⟩) z z, .int .i64 (rm : Int), .map (some w2.heap.size), .map (some (w2.heap.size + 1)), .pointer (some ⟨w2.heap.size + 1 + 1, 0, none⟩)] 73) := ⟨_, rfl⟩
  have hgs := (HS.out.at List.mem_cons_self).lt
  obtain ⟨x1, x2, x3, x4, x5⟩ := new_world (HS.out.at List.mem_cons_self) X hX
  rw [← hX]
  refine HP.out gs w2.heap.size (w2.heap.size + 1) (w2.heap.size + 1 + 1) X x1 x2 x3 ?_ ?_ hgs (by omega) (by omega) (HS.out.bel.trans (x5.mono HS.out.bel.size))
  · unfold poolC
    rw [HZ.out.1, HZ.out.2]
    exact x4
  · omega
set_option maxHeartbeats 4000000 in
set_option maxRecDepth 100000 in
theorem vNew_no {p : PoolD} {v : Value} {w : World} (hG : Ground w) (hf : fitA p.r) (hrow : RgRow w v p.R) (hc : chkP p ≠ 0) :
    Calls Tryd.prog 8 #[pv p v] w fun e w' => e = .returned (.tuple #[.pointer none, .int .i64 2]) ∧ Below w.heap.size w w' := by
  have h2 : chkP p = 2 := by unfold chkP at hc ⊢; split <;> simp_all
  have HC := Lib.hid (fun wx (hb : Below w.heap.size w wx) => vCheck_any (p := p) (v := v) (w := wx) (hG.next hb) hf (hrow.below hb))
  rw [h2] at HC
  have HS := Lib.hid ((Bx.start w).more 34 #[.bool p.r.1, .int .u64 (p.r.2.1 : Int), .int .u64 (p.r.2.2 : Int), .int .i64 p.b, v])
  clear hrow hf hG hc h2
  unfold pv at HC ⊢
  go_enter Tryd.func8, Tryd.ntmps8
  go_wp2_with ((go_at_call 19; (with_reducible refine (HC.out _ HS.out.bel).mono ?_); rintro e w1 ⟨rfl, hb⟩; replace HS := Lib.hid (HS.out.next hb); clear hb))
  go_ret2
  exact ⟨rfl, HS.out.bel⟩
end Go.Proofs.YthlabpbplikjbaaDoor
namespace Go.Proofs.YthlabpbplikjbaaDoor
open Go.RowKit Go.Maps
set_option linter.unusedVariables false

theorem PoolAt.drewN {w : World} {B : PB} {p : PoolD} {H : List Hd} (h : PoolAt w B p H) (n : Nat) : PoolAt (w.drewN n) B p H := ⟨h.obj, h.row, h.adr.same rfl, h.hld.same rfl, h.ok, h.wf⟩
set_option maxHeartbeats 2000000 in
theorem pFree_any {w : World} {B : PB} {p : PoolD} {H : List Hd} (h : PoolAt w B p H) :
    Calls Tryd.prog 17 #[.pointer (some ⟨B.g, 0, none⟩)] w (Quiet w (.int .i64 ((p.room - H.length : Nat) : Int))) := by
  have HM := Lib.hid (pmade_yes h)
  have c5 : w.cell? ⟨B.g, 5, none⟩ = some (.int .i64 (p.room : Int)) := h.obj.cell 5
  have c7 : w.cell? ⟨B.g, 7, none⟩ = some (.map (some B.h)) := h.obj.cell 7
  have hl := fun n ty => (h.drewN n).held ty
  have hle := h.wf.le
  have hrl : p.room ≤ 65536 := by
    have := h.ok.pos.2
    have h2 : p.room ≤ p.sz := by unfold PoolD.room; rw [free_cnP]; exact cnP_le _ _ _
    omega
  have hw : IntKind.i64.wrap ((p.room : Int) - (H.length : Int)) = (p.room : Int) - (H.length : Int) := IntWalk.i64_in _ (by omega)
  have hE : Hid (((p.room - H.length : Nat) : Int) = (p.room : Int) - (H.length : Int)) := Lib.hid (by omega)
  clear h
  go_enter Tryd.func17, Tryd.ntmps17
  go_wp2_with (go_at_call 25; refine HM.out.mono ?_; rintro e w' ⟨rfl, rfl⟩)
  go_quiet (fail)
  go_wp2
  go_ret
  exact ⟨by rw [hE.out]; rfl, _, rfl⟩
end Go.Proofs.YthlabpbplikjbaaDoor
namespace Go.Proofs.YthlabpbplikjbaaDoor
open Go.RowKit Go.Maps
set_option linter.unusedVariables false

def hostV (H : List Hd) (a : Ad) : Value := match findA H a with | some x => hdv x | none => hdv (⟨#[]⟩, noA)
def hostS (H : List Hd) (a : Ad) : ByteArray := match findA H a with | some x => x.1 | none => ⟨#[]⟩
theorem PoolAt.addr_any {w : World} {B : PB} {p : PoolD} {H : List Hd} (h : PoolAt w B p H) {a : Ad} (ha : fitA a) :
    (Instr.lookup 71 (.map (some B.h)) (av a) true).run Tryd.prog w = .ok (.tuple #[hostV H a, .bool (findA H a).isSome]) w := by
  unfold hostV
  cases hf : findA H a with
  | some x => exact h.addr_yes hf
  | none => exact h.addr_no ha hf
set_option maxHeartbeats 2000000 in
theorem pHost_any {w : World} {B : PB} {p : PoolD} {H : List Hd} (h : PoolAt w B p H) {a : Ad} (ha : fitA a) :
    Calls Tryd.prog 15 #[.pointer (some ⟨B.g, 0, none⟩), av a] w fun e w' => e = .returned (.tuple #[.string (hostS H a), .bool (findA H a).isSome]) ∧ Below w.heap.size w w' := by
  obtain ⟨six, hi, lo⟩ := a
  have h1 := h.alloc (.cells #[.bool six, .int .u64 (hi : Int), .int .u64 (lo : Int)] 29)
  have HM := Lib.hid (pmade_yes h1)
  have c7 : (w.alloc (.cells #[.bool six, .int .u64 (hi : Int), .int .u64 (lo : Int)] 29)).cell? ⟨B.g, 7, none⟩ = some (.map (some B.h)) := h1.obj.cell 7
  have hb1 : Hid (Below w.heap.size w (w.alloc (.cells #[.bool six, .int .u64 (hi : Int), .int .u64 (lo : Int)] 29))) := Lib.hid ((Below.refl _ _).alloc (Nat.le_refl _) _)
  obtain ⟨s, hs⟩ : ∃ s, hostS H (six, hi, lo) = s := ⟨_, rfl⟩
  obtain ⟨b, hb⟩ : ∃ b, (findA H (six, hi, lo)).isSome = b := ⟨_, rfl⟩
  obtain ⟨x1, x2, x3, hv⟩ : ∃ x1 x2 x3, hostV H (six, hi, lo) = .agg #[.string s, .bool x1, .int .u64 x2, .int .u64 x3] := by
    rw [← hs]
    unfold hostV hostS
    cases findA H (six, hi, lo) with
    | some x => exact ⟨_, _, _, rfl⟩
    | none => exact ⟨_, _, _, rfl⟩
  have h2 := h1.alloc (.cells #[.string ⟨#[]⟩, .bool false, .int .u64 0, .int .u64 0] 61)
  have d7 : ((w.alloc (.cells #[.bool six, .int .u64 (hi : Int), .int .u64 (lo : Int)] 29)).alloc (.cells #[.string ⟨#[]⟩, .bool false, .int .u64 0, .int .u64 0] 61)).cell? ⟨B.g, 7, none⟩ = some (.map (some B.h)) := h2.obj.cell 7
  have hlk := (h1.drew).addr_any ha
  have hlk2 := (h2.drew).addr_any ha
  rw [hv, hb] at hlk hlk2
  rw [hs, hb]
  unfold av at hlk hlk2 ⊢
  simp only at hlk hlk2 ⊢
  have HL := Lib.hid hlk
  have HL2 := Lib.hid hlk2
  clear h h1 h2 hs hb hv ha hlk hlk2
  go_enter Tryd.func15, Tryd.ntmps15
  go_wp2_with (go_at_call 25; refine HM.out.mono ?_; rintro e w' ⟨rfl, rfl⟩)
  have hlk := HL.out
  have hlk2 := HL2.out
  go_region
  all_goals
    go_wp2
    go_ret2
    exact ⟨rfl, (hb1.out.alloc (by simp) _).drew⟩
def ofV (H : List Hd) (k : List UInt8) : Ad := match findH H k with | some x => x.2 | none => noA
theorem PoolAt.name_any {w : World} {B : PB} {p : PoolD} {H : List Hd} (h : PoolAt w B p H) {k : List UInt8} (hk : k.length ≤ maxLen) :
    (Instr.lookup 70 (.map (some B.a)) (stv k) true).run Tryd.prog w = .ok (.tuple #[av (ofV H k), .bool (findH H k).isSome]) w := by
  unfold ofV
  cases hf : findH H k with
  | some x => exact h.name_yes true hf
  | none => exact h.name_no hk hf
/-- The frozen marks and the cells of an address in a block of its own. -/
theorem ad_cells {w : World} {g : Nat} {x0 x1 x2 : Value} (h : Lies w g 29 #[x0, x1, x2]) :
    (w.cell? ⟨g, 0, none⟩ = some x0 ∧ w.cell? ⟨g, 1, none⟩ = some x1 ∧ w.cell? ⟨g, 2, none⟩ = some x2) ∧ w.frozen? ⟨g, 0, none⟩ = false ∧ w.frozen? ⟨g, 1, none⟩ = false ∧ w.frozen? ⟨g, 2, none⟩ = false :=
  ⟨⟨h.cell 0, h.cell 1, h.cell 2⟩, h.free 0, h.free 1, h.free 2⟩
section
variable {w W w2 : World} {g g' : Nat} {t : TypeId} {x0 x1 x2 y0 y1 y2 z0 z1 z2 : Value}
theorem of_a (h : Lies w2 g t #[x0, x1, x2]) {o : Obj} : Lies ((((w2.setCell ⟨g, 0, none⟩ y0).setCell ⟨g, 1, none⟩ y1).setCell ⟨g, 2, none⟩ y2).alloc o) g t #[y0, y1, y2] := (((h.set 0 y0).set 1 y1).set 2 y2).alloc o
theorem of_b (h : Lies w2 g t #[x0, x1, x2]) (hn : ¬ g = g') : Lies ((((((w2.setCell ⟨g', 0, none⟩ z0).setCell ⟨g', 1, none⟩ z1).setCell ⟨g', 2, none⟩ z2).setCell ⟨g, 0, none⟩ y0).setCell ⟨g, 1, none⟩ y1).setCell ⟨g, 2, none⟩ y2) g t #[y0, y1, y2] :=
  ((((((h.setOther hn z0).setOther hn z1).setOther hn z2).set 0 y0).set 1 y1).set 2 y2)
theorem of_ba (h : Below W.heap.size W w2) (hw : Below w.heap.size w W) (hg : w.heap.size ≤ g) {o : Obj} : Below w.heap.size w ((((w2.setCell ⟨g, 0, none⟩ y0).setCell ⟨g, 1, none⟩ y1).setCell ⟨g, 2, none⟩ y2).alloc o) :=
  ((((hw.trans (h.mono hw.size)).setCell (p := ⟨g, 0, none⟩) hg _).setCell (p := ⟨g, 1, none⟩) hg _).setCell (p := ⟨g, 2, none⟩) hg _).alloc (by simpa [World.setCell] using Nat.le_trans hw.size h.size) o
theorem of_bb (h : Below W.heap.size W w2) (hw : Below w.heap.size w W) (hg : w.heap.size ≤ g) : Below w.heap.size w ((((((w2.setCell ⟨W.heap.size, 0, none⟩ z0).setCell ⟨W.heap.size, 1, none⟩ z1).setCell ⟨W.heap.size, 2, none⟩ z2).setCell ⟨g, 0, none⟩ y0).setCell ⟨g, 1, none⟩ y1).setCell ⟨g, 2, none⟩ y2) :=
  (((((((hw.trans (h.mono hw.size)).setCell (p := ⟨W.heap.size, 0, none⟩) hw.size _).setCell (p := ⟨W.heap.size, 1, none⟩) hw.size _).setCell (p := ⟨W.heap.size, 2, none⟩) hw.size _).setCell (p := ⟨g, 0, none⟩) hg _).setCell (p := ⟨g, 1, none⟩) hg _).setCell (p := ⟨g, 2, none⟩) hg _)
end
set_option maxRecDepth 100000 in
set_option maxHeartbeats 8000000 in
theorem of_core {w W : World} {B : PB} {F : ByteArray} {n : ByteArray} {s b : Bool} {ah al : Nat} (g : Nat)
    (hg : Lies W g 29 #[.bool false, .int .u64 0, .int .u64 0]) (hbw : Below w.heap.size w W) (hgw : w.heap.size ≤ g) (hgW : W.heap.size = g + 1)
    (gf : Gives 30 #[.string n] (.string F))
    (HL : ∀ wx, Below W.heap.size W wx → wx.cell? ⟨B.g, 6, none⟩ = some (.map (some B.a)) ∧ (Instr.lookup 70 (.map (some B.a)) (.string F) true).run Tryd.prog wx = .ok (.tuple #[.agg #[.bool s, .int .u64 (ah : Int), .int .u64 (al : Int)], .bool b]) wx)
    (hm : Calls Tryd.prog 25 #[.pointer (some ⟨B.g, 0, none⟩)] W fun e w' => e = .returned (.bool true) ∧ W = w') (hW : w.alloc (.cells #[.bool false, .int .u64 0, .int .u64 0] 29) = W) (hg0 : g = w.heap.size) :
    Calls Tryd.prog 11 #[.pointer (some ⟨B.g, 0, none⟩), .string n] w fun e w' => e = .returned (.tuple #[.agg #[.bool s, .int .u64 (ah : Int), .int .u64 (al : Int)], .bool b]) ∧ Below w.heap.size w w' := by
  have HL := Lib.hid HL
  have gf := Lib.hid gf
  have HM := Lib.hid hm
  have HG := Lib.hid hg
  have HBW := Lib.hid hbw
  have HGW := Lib.hid hgw
  have HgW := Lib.hid hgW
  have HW := Lib.hid hW
  have HG0 := Lib.hid hg0
  clear hm hg hbw hgw hgW hW hg0
  go_enter Tryd.func11, Tryd.ntmps11
  go_wp2_with fail
  rw [HW.out, ← HG0.out]
  go_wp2_with (go_at_call 25; refine HM.out.mono ?_; rintro e w' ⟨rfl, rfl⟩)
  have hb0 : Below W.heap.size W W := Below.refl _ _
  have hb1 : Below W.heap.size W (W.alloc (.cells #[.bool false, .int .u64 0, .int .u64 0] 29)) := hb0.alloc (Nat.le_refl _) _
  obtain ⟨f6, l6⟩ := HL.out _ hb0
  obtain ⟨g6, m6⟩ := HL.out _ hb1
  have HN1 : Hid (Lies (W.alloc (.cells #[.bool false, .int .u64 0, .int .u64 0] 29)).drew W.heap.size 29 #[.bool false, .int .u64 0, .int .u64 0]) := Lib.hid (Lies.new _ _ _).drew
  have HB0 := Lib.hid hb0
  have HB1 := Lib.hid hb1
  have hgn1 : ¬ g = W.heap.size := by have := HgW.out; omega
  have hgn2 : ¬ W.heap.size = g := by have := HgW.out; omega
  clear hb0 hb1 l6 m6
  go_region_with (go_at_call 30; refine (gf.out.go _).mono ?_; rintro e w2 ⟨rfl, hb⟩; (first | (have hB2 : Below W.heap.size W w2 := HB1.out.drew.trans (hb.mono HB1.out.drew.size); have HN2 := HN1.out.next hb; obtain ⟨⟨n0, n1, n2⟩, o0, o1, o2⟩ := ad_cells HN2; have HNN := Lib.hid HN2; clear HN2) | have hB2 : Below W.heap.size W w2 := HB0.out.drew.trans (hb.mono HB0.out.drew.size)); clear hb; obtain ⟨f7, l7⟩ := HL.out _ hB2; have hB3 : Below W.heap.size W (w2.alloc (.cells #[.bool false, .int .u64 0, .int .u64 0] 29)) := hB2.alloc hB2.size _; obtain ⟨f8, l8⟩ := HL.out _ hB3; have HR2 := HG.out.next hB2; obtain ⟨⟨r0, r1, r2⟩, s0, s1, s2⟩ := ad_cells HR2; have hsl := HR2.lt; have HRR := Lib.hid HR2; clear HR2; have HB2 := Lib.hid hB2; clear hB2 hB3)
  all_goals
    go_wp2
    refine bodyPost_ret (ret_ad2 rfl _ _ g (s, ah, al) rfl ?_) rfl ⟨rfl, ?_⟩
    · first | with_reducible exact of_a HRR.out | with_reducible exact of_b HRR.out hgn1
    · first | with_reducible exact of_ba HB2.out HBW.out HGW.out | with_reducible exact of_bb HB2.out HBW.out HGW.out
theorem pOf_any {w : World} {B : PB} {p : PoolD} {H : List Hd} (h : PoolAt w B p H) {n : ByteArray} (hn : n.size ≤ maxLen) {k : List UInt8} (hk : keyH n = k) :
    Calls Tryd.prog 11 #[.pointer (some ⟨B.g, 0, none⟩), .string n] w fun e w' => e = .returned (.tuple #[av (ofV H k), .bool (findH H k).isSome]) ∧ Below w.heap.size w w' := by
  have h1 := h.alloc (.cells #[.bool false, .int .u64 0, .int .u64 0] 29)
  have gf := gFold (s := n) (x := ⟨k.toArray⟩) hn (by rw [bs_mk]; exact hk)
  have hkm : k.length ≤ maxLen := by rw [← hk]; exact key_max n
  obtain ⟨⟨s, ah, al⟩, ha⟩ : ∃ a, ofV H k = a := ⟨_, rfl⟩
  rw [ha]
  exact of_core w.heap.size (Lies.new _ _ _) ((Below.refl _ _).alloc (Nat.le_refl _) _) (Nat.le_refl _) (World.size_alloc _ _) gf (fun wx hb => ⟨(h1.next hb).obj.cell 6, by
    have := (h1.next hb).name_any hkm
    rw [ha] at this
    exact this⟩) (pmade_yes h1) rfl rfl
end Go.Proofs.YthlabpbplikjbaaDoor
namespace Go.Proofs.YthlabpbplikjbaaDoor
open Go.RowKit Go.Maps Go.Shelf
set_option linter.unusedVariables false
attribute [local go_sem] Oper.semAt_some

def PoolD.nextA (p : PoolD) (H : List Hd) (k : List UInt8) : Ad := match p.first H k with | some j => plR p.r j.toNat | none => noA
def PoolD.nextB (p : PoolD) (H : List Hd) (k : List UInt8) : Bool := (p.first H k).isSome
theorem key_key (n : ByteArray) : foldN (keyH n) = keyH n := by
  unfold keyH
  by_cases h : chkN (bs n) = 0
  · obtain ⟨h1, h2, h3⟩ := foldN_facts h
    have e : foldN (bs n) = fold (bs n) := if_pos h
    rw [e]
    unfold foldN
    rw [if_pos h2, fold_fold]
  · have e : foldN (bs n) = [] := if_neg h
    rw [e]
    rfl
/-- The blocks that next writes at its end: its results. -/
def T9 (r : Nat) (b : Nat) : Prop := b = r ∨ b = r + 1
structure NI (w2 : World) (r : Nat) (p : PoolD) (H : List Hd) (pre : List Int) (T : Nat → Prop) (W : World) : Prop where
  eT : T = T9 r
  no : ∀ y ∈ pre, p.freeJ H y.toNat = false
  bel : Below w2.heap.size w2 W
/-- How it is left: the results lie in their cells. -/
structure NX (w : World) (r : Nat) (p : PoolD) (H : List Hd) (k : List UInt8) (W : World) : Prop where
  ad : Lies W r 29 #[.bool (p.nextA H k).1, .int .u64 ((p.nextA H k).2.1 : Int), .int .u64 ((p.nextA H k).2.2 : Int)]
  yes : Boxed W (r + 1) 4 (.bool (p.nextB H k))
  bel : Below w.heap.size w W
theorem nx_own {w : World} {r : Nat} {p : PoolD} {H : List Hd} {k : List UInt8} {n : Nat} (hn : r + 1 < n) (hw : w.heap.size ≤ n) {β : Type} : OwnFrom n fun (_ : β) W => NX w r p H k W := by
  intro s X Y row h hg hr
  refine ⟨h.ad.grown hg (fun e => by have := (hr r e.symm).1; omega), h.yes.kept hg (fun e => by have := (hr (r + 1) e.symm).1; omega), ?_⟩
  exact h.bel.grown hg h.bel.size (fun j hj => by have := (hr j hj).1; omega)
theorem ni_own {w2 : World} {r : Nat} {p : PoolD} {H : List Hd} (T : Nat → Prop) {n : Nat} (hn : w2.heap.size ≤ n) : OwnFrom n fun (pre : List Int) W => NI w2 r p H pre T W := by
  intro s X Y row h hg hr
  exact ⟨h.eT, h.no, h.bel.grown hg h.bel.size (fun j hj => by have := (hr j hj).1; omega)⟩
theorem ret_nx {fn : Func} {p q : Tmp} (h : fn.results = #[.cell p 29, .cell q 4]) (tmps : Array Value) (w : World) (g : Nat) (a : Ad) (b : Bool) (hp : tmps.getD p undef = .pointer (some ⟨g, 0, none⟩)) (hq : tmps.getD q undef = .pointer (some ⟨g + 1, 0, none⟩))
    (hg : Lies w g 29 #[.bool a.1, .int .u64 (a.2.1 : Int), .int .u64 (a.2.2 : Int)]) (hb : Boxed w (g + 1) 4 (.bool b)) : (results fn tmps).run Tryd.prog w = .ok (.tuple #[av a, .bool b]) w := by
  have e1 := run_loadVar_row w g 29 29 #[.bool a.1, .int .u64 (a.2.1 : Int), .int .u64 (a.2.2 : Int)] (0, 0) _ hg Tryd.underlying29 rfl infoA
  have cz := hb.cell
  have e2 : (loadVar 4 ⟨g + 1, 0, none⟩).run Tryd.prog w = .ok (.bool b) w := by simp [go_sem, cz]
  rw [Array.getD_eq_getD_getElem?] at hp hq
  unfold results
  rw [h]
  simp [hp, hq, asAddr, e1, e2, Result.andThen]
  rfl
theorem first_of {p : PoolD} {H : List Hd} {k : List UInt8} {pre : List Int} {x : Int} (hp : pre ++ [x] <+: p.tour k) (hn : ∀ y ∈ pre, p.freeJ H y.toNat = false) (hx : p.freeJ H x.toNat = true) : p.nextA H k = plR p.r x.toNat ∧ p.nextB H k = true := by
  have := find_pre hp hn hx
  unfold PoolD.nextA PoolD.nextB
  rw [this]
  exact ⟨rfl, rfl⟩
theorem first_non {p : PoolD} {H : List Hd} {k : List UInt8} (h : p.first H k = none) : p.nextA H k = noA ∧ p.nextB H k = false := by
  unfold PoolD.nextA PoolD.nextB
  rw [h]
  exact ⟨rfl, rfl⟩
end Go.Proofs.YthlabpbplikjbaaDoor
