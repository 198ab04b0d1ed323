/-
  A region that draws its order, cut at operations behind which all others wait: segments that are quiet over a class of worlds, walked in the order of the text; between them one operation at the very world. No condition.
-/
import Derived.Test.YtabhapohkohbmaaQui
namespace Go.Proofs.Ytabhapohkohbmaa
open Go.RowKit
set_option linter.unusedVariables false

section
variable {P : Program} {ops : Array Oper} {md : Region.Mode} {C : World → Prop}
/-- Whatever order is picked among those below m. -/
def wpPartQ (P : Program) (md : Region.Mode) (ops : Array Oper) (C : World → Prop) (m : Nat) (Q : Act → Prop) : Nat → Array Bool → Act → Prop
  | 0, listed, a => (∀ i, i < m → listed.getD i true = true) ∧ Q a
  | fuel + 1, listed, a => ∀ i ∈ Region.ready md ops listed, i < m → qOp P ops C i (wpPartQ P md ops C m Q fuel (listed.setIfInBounds i true)) a
theorem wpPartQ_first {m : Nat} {Q : Act → Prop} {i : Nat} {oi : Oper} {v : Value} (hi : ops[i]? = some oi) (him : i < m) (hsel : ∀ (j : Nat) (o : Oper) cs b, ops[j]? = some o → o.op ≠ .select cs b) :
    ∀ (fuel : Nat) (listed : Array Bool) (a : Act),
      (∀ j oj, ops[j]? = some oj → j ≠ i → j < m → listed.getD j true = false → (∀ e ∈ oj.after, Region.binds md e = true → e.on ≠ i) → oi.apart ops oj = true) →
      i ∈ Region.ready md ops listed → YieldsIn P ops C oi v a →
      wpPartQ P md ops C m Q fuel (listed.setIfInBounds i true) (a.put oi.dst v) → wpPartQ P md ops C m Q (fuel + 1) listed a := by
  intro fuel
  induction fuel with
  | zero =>
    intro listed a _ hr hy H j hj hjm
    by_cases hji : j = i
    · subst hji; exact hy.qOp hi H
    · exfalso
      have h1 := (mem_ready.1 (ready_mono hj hji)).1
      rw [H.1 j hjm] at h1
      cases h1
  | succ fuel ih =>
    intro listed a hfree hr hy H j hj hjm
    by_cases hji : j = i
    · subst hji; exact hy.qOp hi H
    · have h1 := H j (ready_mono hj hji) hjm
      obtain ⟨hjun, oj, hoj, hall⟩ := mem_ready.1 hj
      have hnot : ∀ e ∈ oj.after, Region.binds md e = true → e.on ≠ i := fun e he hb heq => by
        have h1 := hall e he hb
        have h0 := (mem_ready.1 hr).1
        rw [heq] at h1
        rcases Nat.lt_or_ge i listed.size with h' | h'
        · simp [h'] at h0 h1; rw [h0] at h1; cases h1
        · simp [Array.getElem?_eq_none h'] at h1
      have h2 := qOp_put hoj (hfree j oj hoj hji hjm hjun hnot) (fun cs b => hsel i oi cs b hi) (fun cs b => hsel j oj cs b hoj) hy h1
      have hfree' : ∀ k ok, ops[k]? = some ok → k ≠ i → k < m → (listed.setIfInBounds j true).getD k true = false →
          (∀ e ∈ ok.after, Region.binds md e = true → e.on ≠ i) → oi.apart ops ok = true := fun k ok hk hki hkm hun hno => by
        refine hfree k ok hk hki hkm ?_ hno
        by_cases hjk : j = k
        · subst hjk; exact hjun
        · rw [getD_set_ne true hjk] at hun; exact hun
      refine qOp_mono (fun a' h3 => ih (listed.setIfInBounds j true) a' hfree' (ready_mono hr (Ne.symm hji)) h3.1 ?_) h2
      rw [Array.setIfInBounds_comm _ _ hji]
      exact h3.2
/-- The first k are listed. -/
def preB (n k : Nat) : Array Bool := ((List.range n).map fun i => decide (i < k)).toArray
theorem preB_size (n k : Nat) : (preB n k).size = n := by simp [preB]
theorem preB_get {n k i : Nat} (h : i < n) : (preB n k)[i]? = some (decide (i < k)) := by simp [preB, h]
theorem preB_getD {n k i : Nat} (h : i < n) (d : Bool) : (preB n k).getD i d = decide (i < k) := by rw [Array.getD_eq_getD_getElem?, preB_get h]; rfl
theorem preB_set {n k : Nat} (h : k < n) : (preB n k).setIfInBounds k true = preB n (k + 1) := by
  apply Array.ext_getElem?
  intro i
  by_cases hi : i < n
  · rw [preB_get hi]
    by_cases hik : k = i
    · subst hik
      rw [Array.getElem?_setIfInBounds_self_of_lt (by rw [preB_size]; exact h)]
      simp
    · rw [Array.getElem?_setIfInBounds_ne hik, preB_get hi]
      congr 1
      simp only [decide_eq_decide]
      omega
  · rw [Array.getElem?_eq_none (by rw [Array.size_setIfInBounds, preB_size]; omega), Array.getElem?_eq_none (by rw [preB_size]; omega)]
theorem preB_zero (n : Nat) : Array.replicate n false = preB n 0 := by
  apply Array.ext_getElem?
  intro i
  by_cases hi : i < n
  · rw [preB_get hi]; simp [hi]
  · rw [Array.getElem?_eq_none (by simp; omega), Array.getElem?_eq_none (by rw [preB_size]; omega)]
theorem wpPartQ_lex {m : Nat} {Q : Act → Prop} (hs : Region.noSelect ops = true) (hmn : m ≤ ops.size) : ∀ (l : List Oper) (k : Nat) (a : Act), (∀ j, j < l.length → l[j]? = ops[k + j]?) → k + l.length = m →
    lexL md ops k l = true → wpQuiet P ops C Q l a → wpPartQ P md ops C m Q l.length (preB ops.size k) a
  | [], k, a, _, hk, _, h => ⟨fun i hi => by simp at hk; rw [preB_getD (by omega)]; simp; omega, h⟩
  | o :: l, k, a, hl, hk, hB, h => by
    have h0 : ops[k]? = some o := by simpa using (hl 0 (by simp)).symm
    simp only [List.length_cons] at hk
    have hks : k < ops.size := by omega
    simp only [lexL, Bool.and_eq_true] at hB
    obtain ⟨⟨ha, hf⟩, hr⟩ := hB
    have hst : qOp P ops C k (wpQuiet P ops C Q l) a := by unfold qOp; simp only [h0]; exact h
    obtain ⟨v, hy, hK⟩ := yieldsIn_of_qOp h0 hst
    have hready : k ∈ Region.ready md ops (preB ops.size k) := by
      rw [mem_ready]
      refine ⟨by rw [preB_getD hks]; simp, o, h0, fun e he hb => ?_⟩
      have := Array.all_eq_true_iff_forall_mem.1 ha e he
      rw [hb] at this
      have hlt : e.on < k := by simpa [Nat.blt_eq] using this
      rw [preB_getD (by omega)]
      simpa using hlt
    refine wpPartQ_first h0 (by omega) (Region.noSelect_spec hs) l.length _ a (fun j oj hj hne hjm hun hno => ?_) hready hy ?_
    · have hjs : j < ops.size := (Array.getElem?_eq_some_iff.1 hj).1
      rw [preB_getD hjs] at hun
      have hge : k ≤ j := by simpa using hun
      obtain ⟨q, rfl⟩ : ∃ q, j = k + (q + 1) := ⟨j - k - 1, by omega⟩
      have hm2 := hl (q + 1) (by simp; omega)
      rw [List.getElem?_cons_succ] at hm2
      have hql : q < l.length := by omega
      rw [List.getElem?_eq_getElem hql, hj] at hm2
      injection hm2 with hm2
      have := List.all_eq_true.1 hf _ (List.getElem_mem hql)
      rw [hm2] at this
      rw [Bool.or_eq_true] at this
      rcases this with h1 | h1
      · exfalso
        obtain ⟨e, he, hx⟩ := Array.any_eq_true'.1 h1
        rw [Bool.and_eq_true] at hx
        exact hno e he hx.1 (by simpa using hx.2)
      · exact h1
    · rw [preB_set hks]
      exact wpPartQ_lex hs hmn l (k + 1) _ (fun j hj => by have := hl (j + 1) (by simp; omega); rw [List.getElem?_cons_succ] at this; rw [this]; congr 1; omega) (by omega) hr hK

/-- Each of k .. m - 1 is waited for by one behind it, up to m; what is behind m waits for what is from m on. -/
def gateB (md : Region.Mode) (ops : Array Oper) (k m : Nat) : Bool :=
  ((List.range ops.size).all fun i => !(Nat.ble k i && Nat.blt i m) || (List.range ops.size).any fun j => Nat.blt i j && Nat.ble j m && ((ops[j]?).map fun o => o.after.any fun e => Region.binds md e && e.on == i).getD false) &&
  ((List.range ops.size).all fun j => !(Nat.blt m j) || ((ops[j]?).map fun o => o.after.any fun e => Region.binds md e && Nat.ble m e.on).getD false)
/-- Each operation waits for none but for some that stand ahead of it. -/
def aheadB (md : Region.Mode) (ops : Array Oper) : Bool := (List.range ops.size).all fun j => ((ops[j]?).map fun o => o.after.all fun e => !Region.binds md e || Nat.blt e.on j).getD true
theorem ahead_spec (h : aheadB md ops = true) {j : Nat} {o : Oper} (hj : ops[j]? = some o) {e : Edge} (he : e ∈ o.after) (hb : Region.binds md e = true) : e.on < j := by
  have h1 := List.all_eq_true.1 h j (List.mem_range.2 (Array.getElem?_eq_some_iff.1 hj).1)
  rw [hj] at h1
  have := Array.all_eq_true_iff_forall_mem.1 h1 e he
  rw [hb] at this
  simpa [Nat.blt_eq] using this
/-- A listing between the first k and the first m. -/
structure Mid (md : Region.Mode) (ops : Array Oper) (k m : Nat) (listed : Array Bool) : Prop where
  size : listed.size = ops.size
  low : ∀ i, i < k → listed.getD i false = true
  high : ∀ i, m ≤ i → i < ops.size → listed.getD i true = false
  closed : ∀ j o, ops[j]? = some o → listed.getD j false = true → ∀ e ∈ o.after, Region.binds md e = true → listed.getD e.on false = true
theorem getD_both {listed : Array Bool} {i : Nat} (h : i < listed.size) (b c : Bool) : listed.getD i b = listed.getD i c := by
  rw [Array.getD_eq_getD_getElem?, Array.getD_eq_getD_getElem?, Array.getElem?_eq_getElem h]; rfl
theorem Mid.all {k m : Nat} {listed : Array Bool} (h : Mid md ops k m listed) (hm : m ≤ ops.size) (hg : gateB md ops k m = true) {j : Nat} (hj : j ∈ Region.ready md ops listed) (hge : m ≤ j) : ∀ i, i < m → listed.getD i false = true := by
  obtain ⟨hun, o, ho, hall⟩ := mem_ready.1 hj
  have hjs : j < ops.size := (Array.getElem?_eq_some_iff.1 ho).1
  simp only [gateB, Bool.and_eq_true] at hg
  obtain ⟨hg1, hg2⟩ := hg
  have hjm : j = m := by
    refine Classical.byContradiction fun hne => ?_
    have h1 := List.all_eq_true.1 hg2 j (List.mem_range.2 hjs)
    rw [ho] at h1
    have hlt : Nat.blt m j = true := by simp [Nat.blt_eq]; omega
    rw [hlt] at h1
    simp only [Bool.not_true, Bool.false_or, Option.map_some, Option.getD_some] at h1
    obtain ⟨e, he, hx⟩ := Array.any_eq_true'.1 h1
    rw [Bool.and_eq_true] at hx
    have h2 := hall e he hx.1
    have hme : m ≤ e.on := by simpa [Nat.ble_eq] using hx.2
    rcases Nat.lt_or_ge e.on ops.size with h3 | h3
    · have h4 := h.high e.on hme h3
      rw [getD_both (by rw [h.size]; exact h3) true false, h2] at h4
      cases h4
    · rw [Array.getD_eq_getD_getElem?, Array.getElem?_eq_none (by rw [h.size]; exact h3)] at h2
      cases h2
  subst hjm
  have step : ∀ d i, j - i = d → i < j → listed.getD i false = true := by
    intro d
    induction d using Nat.strongRecOn with
    | ind d ih =>
      intro i hd hi
      rcases Nat.lt_or_ge i k with hik | hik
      · exact h.low i hik
      · have h1 := List.all_eq_true.1 hg1 i (List.mem_range.2 (by omega))
        have hb1 : Nat.ble k i = true := by simp [Nat.ble_eq]; omega
        have hb2 : Nat.blt i j = true := by simp [Nat.blt_eq]; omega
        rw [hb1, hb2] at h1
        simp only [Bool.and_self, Bool.not_true, Bool.false_or] at h1
        obtain ⟨q, hq, hx⟩ := List.any_eq_true.1 h1
        rw [Bool.and_eq_true, Bool.and_eq_true] at hx
        obtain ⟨⟨hx1, hx2⟩, hx3⟩ := hx
        have hq1 : i < q := by simpa [Nat.blt_eq] using hx1
        have hq2 : q ≤ j := by simpa [Nat.ble_eq] using hx2
        have hqs := List.mem_range.1 hq
        rw [Array.getElem?_eq_getElem hqs] at hx3
        simp only [Option.map_some, Option.getD_some] at hx3
        obtain ⟨e, he, hy⟩ := Array.any_eq_true'.1 hx3
        rw [Bool.and_eq_true] at hy
        have hei : e.on = i := by simpa using hy.2
        rcases Nat.lt_or_ge q j with hqj | hqj
        · have := h.closed q _ (Array.getElem?_eq_getElem hqs) (ih (j - q) (by omega) q rfl hqj) e he hy.1
          rwa [hei] at this
        · have hqe : q = j := by omega
          subst hqe
          rw [Array.getElem?_eq_getElem hqs] at ho
          injection ho with ho
          have := hall e (ho ▸ he) hy.1
          rwa [hei] at this
  exact fun i hi => step _ i rfl hi
/-- How many of the first m are left. -/
def leftB (m : Nat) (listed : Array Bool) : Nat := ((List.range m).filter fun i => !listed.getD i true).length
theorem leftB_set {m i : Nat} {listed : Array Bool} (hi : i < m) (hu : listed.getD i true = false) : leftB m (listed.setIfInBounds i true) + 1 = leftB m listed := by
  have his : i < listed.size := by
    refine Classical.byContradiction fun hn => ?_
    rw [Array.getD_eq_getD_getElem?, Array.getElem?_eq_none (by omega)] at hu
    cases hu
  unfold leftB
  have key : ∀ l : List Nat, l.Nodup → i ∈ l → (l.filter fun j => !(listed.setIfInBounds i true).getD j true).length + 1 = (l.filter fun j => !listed.getD j true).length := by
    intro l
    induction l with
    | nil => intro _ h; cases h
    | cons x r ih =>
      intro hd hm
      obtain ⟨hx, hr⟩ := List.nodup_cons.1 hd
      by_cases hxi : x = i
      · subst hxi
        have e : r.filter (fun j => !(listed.setIfInBounds x true).getD j true) = r.filter (fun j => !listed.getD j true) := by
          apply List.filter_congr
          intro j hj
          rw [getD_set_ne true (fun e : x = j => hx (e ▸ hj))]
        rw [List.filter_cons_of_neg (by rw [Array.getD_eq_getD_getElem?, Array.getElem?_setIfInBounds_self_of_lt his]; simp), List.filter_cons_of_pos (by rw [hu]; rfl), e, List.length_cons]
      · have ih' := ih hr ((List.mem_cons.1 hm).resolve_left fun e => hxi e.symm)
        by_cases hpx : listed.getD x true = true
        · rw [List.filter_cons_of_neg (by rw [getD_set_ne true (Ne.symm hxi), hpx]; simp), List.filter_cons_of_neg (by rw [hpx]; simp), ih']
        · rw [List.filter_cons_of_pos (by rw [getD_set_ne true (Ne.symm hxi)]; simpa using hpx), List.filter_cons_of_pos (by simpa using hpx), List.length_cons, List.length_cons, ih']
  exact key _ List.nodup_range (List.mem_range.2 hi)
theorem Mid.set {k m i : Nat} {listed : Array Bool} (h : Mid md ops k m listed) (hi : i ∈ Region.ready md ops listed) (him : i < m) : Mid md ops k m (listed.setIfInBounds i true) := by
  obtain ⟨hun, o, ho, hall⟩ := mem_ready.1 hi
  refine ⟨by rw [Array.size_setIfInBounds, h.size], fun j hj => getD_set_true (h.low j hj), fun j h1 h2 => by rw [getD_set_ne true (by omega)]; exact h.high j h1 h2, fun j oj hj hl e he hb => ?_⟩
  by_cases hji : j = i
  · subst hji
    rw [ho] at hj
    injection hj with hj
    exact getD_set_true (hall e (hj ▸ he) hb)
  · rw [getD_set_ne false (Ne.symm hji)] at hl
    exact getD_set_true (h.closed j oj hj hl e he hb)
theorem wpAny_of_part {k m F : Nat} {Q : Act → Prop} {Q' : Exit → Act → World → Prop} (hm : m ≤ ops.size) (ha : aheadB md ops = true) (hg : m < ops.size → gateB md ops k m = true) (hQ : ∀ a w, C w → Q a → wpAny P md ops Q' F (preB ops.size m) a w) :
    ∀ (fuel : Nat) (listed : Array Bool) (a : Act) (w : World), C w → Mid md ops k m listed → leftB m listed = fuel → wpPartQ P md ops C m Q fuel listed a → wpAny P md ops Q' (F + fuel) listed a w
  | 0, listed, a, w, hw, hmid, _, h => by
    have e : listed = preB ops.size m := by
      apply Array.ext_getElem?
      intro i
      by_cases hi : i < ops.size
      · rw [preB_get hi]
        by_cases him : i < m
        · have h1 := h.1 i him
          rw [Array.getD_eq_getD_getElem?, Array.getElem?_eq_getElem (by rw [hmid.size]; exact hi)] at h1
          rw [Array.getElem?_eq_getElem (by rw [hmid.size]; exact hi)]
          simp only [Option.getD_some] at h1
          rw [h1]
          simp [him]
        · have h1 := hmid.high i (by omega) hi
          rw [Array.getD_eq_getD_getElem?, Array.getElem?_eq_getElem (by rw [hmid.size]; exact hi)] at h1
          rw [Array.getElem?_eq_getElem (by rw [hmid.size]; exact hi)]
          simp only [Option.getD_some] at h1
          rw [h1]
          simp [him]
      · rw [Array.getElem?_eq_none (by rw [hmid.size]; omega), Array.getElem?_eq_none (by rw [preB_size]; omega)]
    rw [e]
    exact hQ a w hw h.2
  | fuel + 1, listed, a, w, hw, hmid, hleft, h => by
    have hex : ∃ i, i < m ∧ listed.getD i true = false := by
      unfold leftB at hleft
      have hne : ((List.range m).filter fun i => !listed.getD i true) ≠ [] := fun e => by rw [e] at hleft; cases hleft
      obtain ⟨i, hi⟩ := List.exists_mem_of_ne_nil _ hne
      rw [List.mem_filter, List.mem_range] at hi
      exact ⟨i, hi.1, by simpa using hi.2⟩
    refine ⟨fun h0 => ?_, fun i hi => ?_⟩
    · exfalso
      obtain ⟨i, hi, hmin⟩ : ∃ i, (i < m ∧ listed.getD i true = false) ∧ ∀ j, j < i → ¬ (j < m ∧ listed.getD j true = false) := by
        obtain ⟨i, hi⟩ := hex
        induction i using Nat.strongRecOn with
        | ind i ih =>
          by_cases hh : ∃ j, j < i ∧ (j < m ∧ listed.getD j true = false)
          · obtain ⟨j, hj, hm'⟩ := hh
            exact ih j hj hm'
          · exact ⟨i, hi, fun j hj hm' => hh ⟨j, hj, hm'⟩⟩
      have his : i < ops.size := by omega
      have : i ∈ Region.ready md ops listed := by
        rw [mem_ready]
        refine ⟨hi.2, _, Array.getElem?_eq_getElem his, fun e he hb => ?_⟩
        have hlt := ahead_spec ha (Array.getElem?_eq_getElem his) he hb
        have h1 := hmin e.on hlt
        rw [getD_both (by rw [hmid.size]; omega) false true]
        cases hx : listed.getD e.on true
        · exact absurd ⟨by omega, hx⟩ h1
        · rfl
      rw [h0] at this
      cases this
    · have him : i < m := by
        refine Classical.byContradiction fun hn => ?_
        have his : i < ops.size := by
          obtain ⟨_, o, ho, _⟩ := mem_ready.1 hi
          exact (Array.getElem?_eq_some_iff.1 ho).1
        obtain ⟨u, hu, hu2⟩ := hex
        have h1 := hmid.all hm (hg (by omega)) hi (by omega) u hu
        rw [getD_both (by rw [hmid.size]; omega) true false, h1] at hu2
        cases hu2
      refine wpOp_of_qOp hw (fun a' w' hw' hp => wpAny_of_part hm ha hg hQ fuel _ a' w' hw' (hmid.set hi him) ?_ hp) (h i hi him)
      have := leftB_set him (mem_ready.1 hi).1
      omega
/-- The region, its first k operations carried out. -/
def RegAt (P : Program) (l : List Oper) (Q : Exit → Act → World → Prop) (k : Nat) (a : Act) (w : World) : Prop := wpAny P .any l.toArray Q (l.length - k) (preB l.length k) a w
theorem region_at {l : List Oper} {id : Nat} {Q : Exit → Act → World → Prop} {a : Act} {w : World} (hm : P.follows .mixedOrders = true) (h : RegAt P l Q 0 a w.drew) : (Code.region id l.toArray true).wp P Q a w := by
  refine wp_region_any hm ?_
  unfold RegAt at h
  rw [← preB_zero] at h
  simpa using h
theorem at_end {l : List Oper} {Q : Exit → Act → World → Prop} {a : Act} {w : World} (h : Q .normal a w) : RegAt P l Q l.length a w := by
  unfold RegAt
  rw [Nat.sub_self]
  refine ⟨?_, h⟩
  refine List.eq_nil_iff_forall_not_mem.2 fun i hi => ?_
  obtain ⟨hu, o, ho, _⟩ := mem_ready.1 hi
  have his : i < l.toArray.size := (Array.getElem?_eq_some_iff.1 ho).1
  rw [List.size_toArray] at his
  rw [preB_getD his] at hu
  simp at hu
  omega
/-- Operations k .. m - 1, quiet over the class. -/
theorem at_seg {l : List Oper} {Q : Exit → Act → World → Prop} {a : Act} {w : World} (C : World → Prop) (k m : Nat) (seg : List Oper) (hseg : seg = (l.drop k).take (m - k)) (hkm : k ≤ m) (hm : m ≤ l.length) (hs : Region.noSelect l.toArray = true) (ha : aheadB .any l.toArray = true)
    (hg : m < l.length → gateB .any l.toArray k m = true) (hL : lexL .any l.toArray k seg = true) (hw : C w) (h : wpQuiet P l.toArray C (fun a' => ∀ w', C w' → RegAt P l Q m a' w') seg a) : RegAt P l Q k a w := by
  have hlen : seg.length = m - k := by rw [hseg, List.length_take, List.length_drop]; omega
  have hp := wpPartQ_lex (P := P) (md := .any) (C := C) (m := m) hs (by simpa using hm) seg k a (fun j hj => by
    rw [hlen] at hj
    rw [hseg, List.getElem?_take_of_lt hj, List.getElem?_drop, List.getElem?_toArray]) (by omega) hL h
  have hmid : Mid .any l.toArray k m (preB l.length k) := by
    refine ⟨by rw [preB_size]; simp, fun i hi => by rw [preB_getD (by omega)]; simpa using hi, fun i h1 h2 => by rw [List.size_toArray] at h2; rw [preB_getD h2]; simp; omega, fun j o hj hl e he hb => ?_⟩
    have hjs : j < l.toArray.size := (Array.getElem?_eq_some_iff.1 hj).1
    rw [List.size_toArray] at hjs
    rw [preB_getD hjs] at hl
    have hlt := ahead_spec ha hj he hb
    rw [preB_getD (by omega)]
    have : j < k := by simpa using hl
    simp
    omega
  have hleft : leftB m (preB l.length k) = m - k := by
    unfold leftB
    have e : (List.range m).filter (fun i => !(preB l.length k).getD i true) = (List.range m).filter (fun i => decide (k ≤ i)) := by
      apply List.filter_congr
      intro i hi
      rw [preB_getD (by have := List.mem_range.1 hi; omega)]
      by_cases hik : i < k
      · have : ¬ k ≤ i := by omega
        simp [hik, this]
      · have : k ≤ i := by omega
        simp [hik, this]
    rw [e]
    have : List.range m = List.range k ++ (List.range (m - k)).map (k + ·) := by rw [← List.range_add]; congr 1; omega
    rw [this, List.filter_append, List.length_append]
    rw [List.filter_eq_nil_iff.2 (by intro i hi; have := List.mem_range.1 hi; simp; omega), List.filter_eq_self.2 (by intro i hi; obtain ⟨j, _, rfl⟩ := List.mem_map.1 hi; simp)]
    simp
  unfold RegAt
  have e : l.length - k = (l.length - m) + (m - k) := by omega
  rw [e]
  rw [List.size_toArray] at hp
  rw [hlen] at hp
  refine wpAny_of_part (C := C) (by simpa using hm) ha (by simpa using hg) (fun a' w' hw' hq => ?_) (m - k) _ a w hw hmid hleft hp
  have := hq w' hw'
  unfold RegAt at this
  simpa using this
/-- Operation k alone, behind which all others wait, at the very world. -/
theorem at_one {l : List Oper} {Q : Exit → Act → World → Prop} {a : Act} {w : World} (k : Nat) (o : Oper) (ho : l[k]? = some o) (ha : aheadB .any l.toArray = true) (hg : gateB .any l.toArray k k = true)
    (h : ∀ K : Act → World → Prop, (∀ a w, RegAt P l Q (k + 1) a w → K a w) → wpList P l.toArray (Exit.then K Q) [o] a w) : RegAt P l Q k a w := by
  have hks : k < l.length := (List.getElem?_eq_some_iff.1 ho).1
  have hoA : l.toArray[k]? = some o := by rw [List.getElem?_toArray]; exact ho
  have hmid : Mid .any l.toArray k k (preB l.length k) := by
    refine ⟨by rw [preB_size]; simp, fun i hi => by rw [preB_getD (by omega)]; simpa using hi, fun i h1 h2 => by rw [List.size_toArray] at h2; rw [preB_getD h2]; simp; omega, fun j o hj hl e he hb => ?_⟩
    have hjs : j < l.toArray.size := (Array.getElem?_eq_some_iff.1 hj).1
    rw [List.size_toArray] at hjs
    rw [preB_getD hjs] at hl
    have hlt := ahead_spec ha hj he hb
    rw [preB_getD (by omega)]
    have : j < k := by simpa using hl
    simp
    omega
  have hr : k ∈ Region.ready .any l.toArray (preB l.length k) := by
    rw [mem_ready]
    refine ⟨by rw [preB_getD hks]; simp, o, hoA, fun e he hb => ?_⟩
    have hlt := ahead_spec ha hoA he hb
    rw [preB_getD (by omega)]
    simpa using hlt
  unfold RegAt
  have e : l.length - k = (l.length - (k + 1)) + 1 := by omega
  rw [e]
  refine ⟨fun h0 => (by rw [h0] at hr; cases hr), fun i hi => ?_⟩
  have hik : i = k := by
    obtain ⟨hu, oi, hoi, hall⟩ := mem_ready.1 hi
    have his : i < l.length := by have := (Array.getElem?_eq_some_iff.1 hoi).1; rwa [List.size_toArray] at this
    rw [preB_getD his] at hu
    have hge : k ≤ i := by simpa using hu
    refine Classical.byContradiction fun hne => ?_
    simp only [gateB, Bool.and_eq_true] at hg
    have h1 := List.all_eq_true.1 hg.2 i (List.mem_range.2 (by simpa using his))
    rw [hoi] at h1
    have hlt : Nat.blt k i = true := by simp [Nat.blt_eq]; omega
    rw [hlt] at h1
    simp only [Bool.not_true, Bool.false_or, Option.map_some, Option.getD_some] at h1
    obtain ⟨ee, he, hx⟩ := Array.any_eq_true'.1 h1
    rw [Bool.and_eq_true] at hx
    have h2 := hall ee he hx.1
    have hme : k ≤ ee.on := by simpa [Nat.ble_eq] using hx.2
    have hlt2 := ahead_spec ha hoi he hx.1
    rw [preB_getD (by omega)] at h2
    simp at h2
    omega
  subst hik
  have h2 := h (wpAny P .any l.toArray Q (l.length - (i + 1)) ((preB l.length i).setIfInBounds i true)) (fun a' w' hh => by
    unfold RegAt at hh
    rwa [← preB_set hks] at hh)
  unfold wpOp
  rw [hoA]
  simp only
  simp only [wpList] at h2
  split
  · rename_i hwn
    rw [if_pos hwn] at h2
    rcases h2 with h3 | h3
    · left
      unfold Oper.wp at h3 ⊢
      generalize (execOp a.eval o).run P w = r at *
      cases r with
      | ok n w' =>
        cases n <;> simp only [Oper.upon] at h3 ⊢ <;>
          first
            | exact h3
            | exact Calls.mono h3 (fun e w'' he => by cases e <;> exact he)
            | exact Rows.mono h3 (fun _ _ he => he)
      | halt x w' => cases x <;> simp only [Oper.upon] at h3 ⊢ <;> exact h3
    · right
      exact h3
  · rename_i hwn
    rw [if_neg hwn] at h2
    exact h2
end
end Go.Proofs.Ytabhapohkohbmaa
