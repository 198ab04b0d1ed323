/-
  A region that draws its order, cut at operations behind which all others wait: segments that are quiet over a class of worlds, walked in the order of the text; between them one operation at the very world. No condition. The walk of the law RecordUnlike. Conditions: Go can have the records, the questions. The walk of the law RecordUnlike. Conditions: Go can have the records, the questions. The walk of the law RecordUnlike. Conditions: Go can have the records, the questions.
-/
import Derived.Test.YtbbglpjhblhkdaaGreatQui
import Derived.Test.YtbbglpjhblhkdaaGreatRcM4
import Derived.Test.YtbbglpjhblhkdaaGreatRdMB
import Derived.Deep.RegionHeld3
import Derived.Deep.DeepCutAuto
namespace Go.Proofs.YtbbglpjhblhkdaaGreat
open Go.RowKit
set_option linter.unusedVariables false

section
variable {P : Program} {ops : Array Oper} {md : Region.Mode} {C : World → Prop}
/-- Whatever order is picked among those below m. -/
def wpPartQ (P : Program) (md : Region.Mode) (ops : Array Oper) (C : World → Prop) (m : Nat) (Q : Act → Prop) : Nat → Array Bool → Act → Prop
  | 0, listed, a => (∀ i, i < m → listed.getD i true = true) ∧ Q a
  | fuel + 1, listed, a => ∀ i ∈ Region.ready md ops listed, i < m → qOp P ops C i (wpPartQ P md ops C m Q fuel (listed.setIfInBounds i true)) a
theorem wpPartQ_first {m : Nat} {Q : Act → Prop} {i : Nat} {oi : Oper} {v : Value} (hi : ops[i]? = some oi) (him : i < m) (hsel : ∀ (j : Nat) (o : Oper) cs b, ops[j]? = some o → o.op ≠ .select cs b) :
    ∀ (fuel : Nat) (listed : Array Bool) (a : Act),
      (∀ j oj, ops[j]? = some oj → j ≠ i → j < m → listed.getD j true = false → (∀ e ∈ oj.after, Region.binds md e = true → e.on ≠ i) → oi.apart ops oj = true) →
      i ∈ Region.ready md ops listed → YieldsIn P ops C oi v a →
      wpPartQ P md ops C m Q fuel (listed.setIfInBounds i true) (a.put oi.dst v) → wpPartQ P md ops C m Q (fuel + 1) listed a := by
  intro fuel
  induction fuel with
  | zero =>
    intro listed a _ hr hy H j hj hjm
    by_cases hji : j = i
    · subst hji; exact hy.qOp hi H
    · exfalso
      have h1 := (mem_ready.1 (ready_mono hj hji)).1
      rw [H.1 j hjm] at h1
      cases h1
  | succ fuel ih =>
    intro listed a hfree hr hy H j hj hjm
    by_cases hji : j = i
    · subst hji; exact hy.qOp hi H
    · have h1 := H j (ready_mono hj hji) hjm
      obtain ⟨hjun, oj, hoj, hall⟩ := mem_ready.1 hj
      have hnot : ∀ e ∈ oj.after, Region.binds md e = true → e.on ≠ i := fun e he hb heq => by
        have h1 := hall e he hb
        have h0 := (mem_ready.1 hr).1
        rw [heq] at h1
        rcases Nat.lt_or_ge i listed.size with h' | h'
        · simp [h'] at h0 h1; rw [h0] at h1; cases h1
        · simp [Array.getElem?_eq_none h'] at h1
      have h2 := qOp_put hoj (hfree j oj hoj hji hjm hjun hnot) (fun cs b => hsel i oi cs b hi) (fun cs b => hsel j oj cs b hoj) hy h1
      have hfree' : ∀ k ok, ops[k]? = some ok → k ≠ i → k < m → (listed.setIfInBounds j true).getD k true = false →
          (∀ e ∈ ok.after, Region.binds md e = true → e.on ≠ i) → oi.apart ops ok = true := fun k ok hk hki hkm hun hno => by
        refine hfree k ok hk hki hkm ?_ hno
        by_cases hjk : j = k
        · subst hjk; exact hjun
        · rw [getD_set_ne true hjk] at hun; exact hun
      refine qOp_mono (fun a' h3 => ih (listed.setIfInBounds j true) a' hfree' (ready_mono hr (Ne.symm hji)) h3.1 ?_) h2
      rw [Array.setIfInBounds_comm _ _ hji]
      exact h3.2
/-- The first k are listed. -/
def preB (n k : Nat) : Array Bool := ((List.range n).map fun i => decide (i < k)).toArray
theorem preB_size (n k : Nat) : (preB n k).size = n := by simp [preB]
theorem preB_get {n k i : Nat} (h : i < n) : (preB n k)[i]? = some (decide (i < k)) := by simp [preB, h]
theorem preB_getD {n k i : Nat} (h : i < n) (d : Bool) : (preB n k).getD i d = decide (i < k) := by rw [Array.getD_eq_getD_getElem?, preB_get h]; rfl
theorem preB_set {n k : Nat} (h : k < n) : (preB n k).setIfInBounds k true = preB n (k + 1) := by
  apply Array.ext_getElem?
  intro i
  by_cases hi : i < n
  · rw [preB_get hi]
    by_cases hik : k = i
    · subst hik
      rw [Array.getElem?_setIfInBounds_self_of_lt (by rw [preB_size]; exact h)]
      simp
    · rw [Array.getElem?_setIfInBounds_ne hik, preB_get hi]
      congr 1
      simp only [decide_eq_decide]
      omega
  · rw [Array.getElem?_eq_none (by rw [Array.size_setIfInBounds, preB_size]; omega), Array.getElem?_eq_none (by rw [preB_size]; omega)]
theorem preB_zero (n : Nat) : Array.replicate n false = preB n 0 := by
  apply Array.ext_getElem?
  intro i
  by_cases hi : i < n
  · rw [preB_get hi]; simp [hi]
  · rw [Array.getElem?_eq_none (by simp; omega), Array.getElem?_eq_none (by rw [preB_size]; omega)]
theorem wpPartQ_lex {m : Nat} {Q : Act → Prop} (hs : Region.noSelect ops = true) (hmn : m ≤ ops.size) : ∀ (l : List Oper) (k : Nat) (a : Act), (∀ j, j < l.length → l[j]? = ops[k + j]?) → k + l.length = m →
    lexL md ops k l = true → wpQuiet P ops C Q l a → wpPartQ P md ops C m Q l.length (preB ops.size k) a
  | [], k, a, _, hk, _, h => ⟨fun i hi => by simp at hk; rw [preB_getD (by omega)]; simp; omega, h⟩
  | o :: l, k, a, hl, hk, hB, h => by
    have h0 : ops[k]? = some o := by simpa using (hl 0 (by simp)).symm
    simp only [List.length_cons] at hk
    have hks : k < ops.size := by omega
    simp only [lexL, Bool.and_eq_true] at hB
    obtain ⟨⟨ha, hf⟩, hr⟩ := hB
    have hst : qOp P ops C k (wpQuiet P ops C Q l) a := by unfold qOp; simp only [h0]; exact h
    obtain ⟨v, hy, hK⟩ := yieldsIn_of_qOp h0 hst
    have hready : k ∈ Region.ready md ops (preB ops.size k) := by
      rw [mem_ready]
      refine ⟨by rw [preB_getD hks]; simp, o, h0, fun e he hb => ?_⟩
      have := Array.all_eq_true_iff_forall_mem.1 ha e he
      rw [hb] at this
      have hlt : e.on < k := by simpa [Nat.blt_eq] using this
      rw [preB_getD (by omega)]
      simpa using hlt
    refine wpPartQ_first h0 (by omega) (Region.noSelect_spec hs) l.length _ a (fun j oj hj hne hjm hun hno => ?_) hready hy ?_
    · have hjs : j < ops.size := (Array.getElem?_eq_some_iff.1 hj).1
      rw [preB_getD hjs] at hun
      have hge : k ≤ j := by simpa using hun
      obtain ⟨q, rfl⟩ : ∃ q, j = k + (q + 1) := ⟨j - k - 1, by omega⟩
      have hm2 := hl (q + 1) (by simp; omega)
      rw [List.getElem?_cons_succ] at hm2
      have hql : q < l.length := by omega
      rw [List.getElem?_eq_getElem hql, hj] at hm2
      injection hm2 with hm2
      have := List.all_eq_true.1 hf _ (List.getElem_mem hql)
      rw [hm2] at this
      rw [Bool.or_eq_true] at this
      rcases this with h1 | h1
      · exfalso
        obtain ⟨e, he, hx⟩ := Array.any_eq_true'.1 h1
        rw [Bool.and_eq_true] at hx
        exact hno e he hx.1 (by simpa using hx.2)
      · exact h1
    · rw [preB_set hks]
      exact wpPartQ_lex hs hmn l (k + 1) _ (fun j hj => by have := hl (j + 1) (by simp; omega); rw [List.getElem?_cons_succ] at this; rw [this]; congr 1; omega) (by omega) hr hK

/-- Each of k .. m - 1 is waited for by one behind it, up to m; what is behind m waits for what is from m on. -/
def gateB (md : Region.Mode) (ops : Array Oper) (k m : Nat) : Bool :=
  ((List.range ops.size).all fun i => !(Nat.ble k i && Nat.blt i m) || (List.range ops.size).any fun j => Nat.blt i j && Nat.ble j m && ((ops[j]?).map fun o => o.after.any fun e => Region.binds md e && e.on == i).getD false) &&
  ((List.range ops.size).all fun j => !(Nat.blt m j) || ((ops[j]?).map fun o => o.after.any fun e => Region.binds md e && Nat.ble m e.on).getD false)
/-- Each operation waits for none but for some that stand ahead of it. -/
def aheadB (md : Region.Mode) (ops : Array Oper) : Bool := (List.range ops.size).all fun j => ((ops[j]?).map fun o => o.after.all fun e => !Region.binds md e || Nat.blt e.on j).getD true
theorem ahead_spec (h : aheadB md ops = true) {j : Nat} {o : Oper} (hj : ops[j]? = some o) {e : Edge} (he : e ∈ o.after) (hb : Region.binds md e = true) : e.on < j := by
  have h1 := List.all_eq_true.1 h j (List.mem_range.2 (Array.getElem?_eq_some_iff.1 hj).1)
  rw [hj] at h1
  have := Array.all_eq_true_iff_forall_mem.1 h1 e he
  rw [hb] at this
  simpa [Nat.blt_eq] using this
/-- A listing between the first k and the first m. -/
structure Mid (md : Region.Mode) (ops : Array Oper) (k m : Nat) (listed : Array Bool) : Prop where
  size : listed.size = ops.size
  low : ∀ i, i < k → listed.getD i false = true
  high : ∀ i, m ≤ i → i < ops.size → listed.getD i true = false
  closed : ∀ j o, ops[j]? = some o → listed.getD j false = true → ∀ e ∈ o.after, Region.binds md e = true → listed.getD e.on false = true
theorem getD_both {listed : Array Bool} {i : Nat} (h : i < listed.size) (b c : Bool) : listed.getD i b = listed.getD i c := by
  rw [Array.getD_eq_getD_getElem?, Array.getD_eq_getD_getElem?, Array.getElem?_eq_getElem h]; rfl
theorem Mid.all {k m : Nat} {listed : Array Bool} (h : Mid md ops k m listed) (hm : m ≤ ops.size) (hg : gateB md ops k m = true) {j : Nat} (hj : j ∈ Region.ready md ops listed) (hge : m ≤ j) : ∀ i, i < m → listed.getD i false = true := by
  obtain ⟨hun, o, ho, hall⟩ := mem_ready.1 hj
  have hjs : j < ops.size := (Array.getElem?_eq_some_iff.1 ho).1
  simp only [gateB, Bool.and_eq_true] at hg
  obtain ⟨hg1, hg2⟩ := hg
  have hjm : j = m := by
    refine Classical.byContradiction fun hne => ?_
    have h1 := List.all_eq_true.1 hg2 j (List.mem_range.2 hjs)
    rw [ho] at h1
    have hlt : Nat.blt m j = true := by simp [Nat.blt_eq]; omega
    rw [hlt] at h1
    simp only [Bool.not_true, Bool.false_or, Option.map_some, Option.getD_some] at h1
    obtain ⟨e, he, hx⟩ := Array.any_eq_true'.1 h1
    rw [Bool.and_eq_true] at hx
    have h2 := hall e he hx.1
    have hme : m ≤ e.on := by simpa [Nat.ble_eq] using hx.2
    rcases Nat.lt_or_ge e.on ops.size with h3 | h3
    · have h4 := h.high e.on hme h3
      rw [getD_both (by rw [h.size]; exact h3) true false, h2] at h4
      cases h4
    · rw [Array.getD_eq_getD_getElem?, Array.getElem?_eq_none (by rw [h.size]; exact h3)] at h2
      cases h2
  subst hjm
  have step : ∀ d i, j - i = d → i < j → listed.getD i false = true := by
    intro d
    induction d using Nat.strongRecOn with
    | ind d ih =>
      intro i hd hi
      rcases Nat.lt_or_ge i k with hik | hik
      · exact h.low i hik
      · have h1 := List.all_eq_true.1 hg1 i (List.mem_range.2 (by omega))
        have hb1 : Nat.ble k i = true := by simp [Nat.ble_eq]; omega
        have hb2 : Nat.blt i j = true := by simp [Nat.blt_eq]; omega
        rw [hb1, hb2] at h1
        simp only [Bool.and_self, Bool.not_true, Bool.false_or] at h1
        obtain ⟨q, hq, hx⟩ := List.any_eq_true.1 h1
        rw [Bool.and_eq_true, Bool.and_eq_true] at hx
        obtain ⟨⟨hx1, hx2⟩, hx3⟩ := hx
        have hq1 : i < q := by simpa [Nat.blt_eq] using hx1
        have hq2 : q ≤ j := by simpa [Nat.ble_eq] using hx2
        have hqs := List.mem_range.1 hq
        rw [Array.getElem?_eq_getElem hqs] at hx3
        simp only [Option.map_some, Option.getD_some] at hx3
        obtain ⟨e, he, hy⟩ := Array.any_eq_true'.1 hx3
        rw [Bool.and_eq_true] at hy
        have hei : e.on = i := by simpa using hy.2
        rcases Nat.lt_or_ge q j with hqj | hqj
        · have := h.closed q _ (Array.getElem?_eq_getElem hqs) (ih (j - q) (by omega) q rfl hqj) e he hy.1
          rwa [hei] at this
        · have hqe : q = j := by omega
          subst hqe
          rw [Array.getElem?_eq_getElem hqs] at ho
          injection ho with ho
          have := hall e (ho ▸ he) hy.1
          rwa [hei] at this
  exact fun i hi => step _ i rfl hi
/-- How many of the first m are left. -/
def leftB (m : Nat) (listed : Array Bool) : Nat := ((List.range m).filter fun i => !listed.getD i true).length
theorem leftB_set {m i : Nat} {listed : Array Bool} (hi : i < m) (hu : listed.getD i true = false) : leftB m (listed.setIfInBounds i true) + 1 = leftB m listed := by
  have his : i < listed.size := by
    refine Classical.byContradiction fun hn => ?_
    rw [Array.getD_eq_getD_getElem?, Array.getElem?_eq_none (by omega)] at hu
    cases hu
  unfold leftB
  have key : ∀ l : List Nat, l.Nodup → i ∈ l → (l.filter fun j => !(listed.setIfInBounds i true).getD j true).length + 1 = (l.filter fun j => !listed.getD j true).length := by
    intro l
    induction l with
    | nil => intro _ h; cases h
    | cons x r ih =>
      intro hd hm
      obtain ⟨hx, hr⟩ := List.nodup_cons.1 hd
      by_cases hxi : x = i
      · subst hxi
        have e : r.filter (fun j => !(listed.setIfInBounds x true).getD j true) = r.filter (fun j => !listed.getD j true) := by
          apply List.filter_congr
          intro j hj
          rw [getD_set_ne true (fun e : x = j => hx (e ▸ hj))]
        rw [List.filter_cons_of_neg (by rw [Array.getD_eq_getD_getElem?, Array.getElem?_setIfInBounds_self_of_lt his]; simp), List.filter_cons_of_pos (by rw [hu]; rfl), e, List.length_cons]
      · have ih' := ih hr ((List.mem_cons.1 hm).resolve_left fun e => hxi e.symm)
        by_cases hpx : listed.getD x true = true
        · rw [List.filter_cons_of_neg (by rw [getD_set_ne true (Ne.symm hxi), hpx]; simp), List.filter_cons_of_neg (by rw [hpx]; simp), ih']
        · rw [List.filter_cons_of_pos (by rw [getD_set_ne true (Ne.symm hxi)]; simpa using hpx), List.filter_cons_of_pos (by simpa using hpx), List.length_cons, List.length_cons, ih']
  exact key _ List.nodup_range (List.mem_range.2 hi)
theorem Mid.set {k m i : Nat} {listed : Array Bool} (h : Mid md ops k m listed) (hi : i ∈ Region.ready md ops listed) (him : i < m) : Mid md ops k m (listed.setIfInBounds i true) := by
  obtain ⟨hun, o, ho, hall⟩ := mem_ready.1 hi
  refine ⟨by rw [Array.size_setIfInBounds, h.size], fun j hj => getD_set_true (h.low j hj), fun j h1 h2 => by rw [getD_set_ne true (by omega)]; exact h.high j h1 h2, fun j oj hj hl e he hb => ?_⟩
  by_cases hji : j = i
  · subst hji
    rw [ho] at hj
    injection hj with hj
    exact getD_set_true (hall e (hj ▸ he) hb)
  · rw [getD_set_ne false (Ne.symm hji)] at hl
    exact getD_set_true (h.closed j oj hj hl e he hb)
theorem wpAny_of_part {k m F : Nat} {Q : Act → Prop} {Q' : Exit → Act → World → Prop} (hm : m ≤ ops.size) (ha : aheadB md ops = true) (hg : m < ops.size → gateB md ops k m = true) (hQ : ∀ a w, C w → Q a → wpAny P md ops Q' F (preB ops.size m) a w) :
    ∀ (fuel : Nat) (listed : Array Bool) (a : Act) (w : World), C w → Mid md ops k m listed → leftB m listed = fuel → wpPartQ P md ops C m Q fuel listed a → wpAny P md ops Q' (F + fuel) listed a w
  | 0, listed, a, w, hw, hmid, _, h => by
    have e : listed = preB ops.size m := by
      apply Array.ext_getElem?
      intro i
      by_cases hi : i < ops.size
      · rw [preB_get hi]
        by_cases him : i < m
        · have h1 := h.1 i him
          rw [Array.getD_eq_getD_getElem?, Array.getElem?_eq_getElem (by rw [hmid.size]; exact hi)] at h1
          rw [Array.getElem?_eq_getElem (by rw [hmid.size]; exact hi)]
          simp only [Option.getD_some] at h1
          rw [h1]
          simp [him]
        · have h1 := hmid.high i (by omega) hi
          rw [Array.getD_eq_getD_getElem?, Array.getElem?_eq_getElem (by rw [hmid.size]; exact hi)] at h1
          rw [Array.getElem?_eq_getElem (by rw [hmid.size]; exact hi)]
          simp only [Option.getD_some] at h1
          rw [h1]
          simp [him]
      · rw [Array.getElem?_eq_none (by rw [hmid.size]; omega), Array.getElem?_eq_none (by rw [preB_size]; omega)]
    rw [e]
    exact hQ a w hw h.2
  | fuel + 1, listed, a, w, hw, hmid, hleft, h => by
    have hex : ∃ i, i < m ∧ listed.getD i true = false := by
      unfold leftB at hleft
      have hne : ((List.range m).filter fun i => !listed.getD i true) ≠ [] := fun e => by rw [e] at hleft; cases hleft
      obtain ⟨i, hi⟩ := List.exists_mem_of_ne_nil _ hne
      rw [List.mem_filter, List.mem_range] at hi
      exact ⟨i, hi.1, by simpa using hi.2⟩
    refine ⟨fun h0 => ?_, fun i hi => ?_⟩
    · exfalso
      obtain ⟨i, hi, hmin⟩ : ∃ i, (i < m ∧ listed.getD i true = false) ∧ ∀ j, j < i → ¬ (j < m ∧ listed.getD j true = false) := by
        obtain ⟨i, hi⟩ := hex
        induction i using Nat.strongRecOn with
        | ind i ih =>
          by_cases hh : ∃ j, j < i ∧ (j < m ∧ listed.getD j true = false)
          · obtain ⟨j, hj, hm'⟩ := hh
            exact ih j hj hm'
          · exact ⟨i, hi, fun j hj hm' => hh ⟨j, hj, hm'⟩⟩
      have his : i < ops.size := by omega
      have : i ∈ Region.ready md ops listed := by
        rw [mem_ready]
        refine ⟨hi.2, _, Array.getElem?_eq_getElem his, fun e he hb => ?_⟩
        have hlt := ahead_spec ha (Array.getElem?_eq_getElem his) he hb
        have h1 := hmin e.on hlt
        rw [getD_both (by rw [hmid.size]; omega) false true]
        cases hx : listed.getD e.on true
        · exact absurd ⟨by omega, hx⟩ h1
        · rfl
      rw [h0] at this
      cases this
    · have him : i < m := by
        refine Classical.byContradiction fun hn => ?_
        have his : i < ops.size := by
          obtain ⟨_, o, ho, _⟩ := mem_ready.1 hi
          exact (Array.getElem?_eq_some_iff.1 ho).1
        obtain ⟨u, hu, hu2⟩ := hex
        have h1 := hmid.all hm (hg (by omega)) hi (by omega) u hu
        rw [getD_both (by rw [hmid.size]; omega) true false, h1] at hu2
        cases hu2
      refine wpOp_of_qOp hw (fun a' w' hw' hp => wpAny_of_part hm ha hg hQ fuel _ a' w' hw' (hmid.set hi him) ?_ hp) (h i hi him)
      have := leftB_set him (mem_ready.1 hi).1
      omega
/-- The region, its first k operations carried out. -/
def RegAt (P : Program) (l : List Oper) (Q : Exit → Act → World → Prop) (k : Nat) (a : Act) (w : World) : Prop := wpAny P .any l.toArray Q (l.length - k) (preB l.length k) a w
theorem region_at {l : List Oper} {id : Nat} {Q : Exit → Act → World → Prop} {a : Act} {w : World} (hm : P.follows .mixedOrders = true) (h : RegAt P l Q 0 a w.drew) : (Code.region id l.toArray true).wp P Q a w := by
  refine wp_region_any hm ?_
  unfold RegAt at h
  rw [← preB_zero] at h
  simpa using h
theorem at_end {l : List Oper} {Q : Exit → Act → World → Prop} {a : Act} {w : World} (h : Q .normal a w) : RegAt P l Q l.length a w := by
  unfold RegAt
  rw [Nat.sub_self]
  refine ⟨?_, h⟩
  refine List.eq_nil_iff_forall_not_mem.2 fun i hi => ?_
  obtain ⟨hu, o, ho, _⟩ := mem_ready.1 hi
  have his : i < l.toArray.size := (Array.getElem?_eq_some_iff.1 ho).1
  rw [List.size_toArray] at his
  rw [preB_getD his] at hu
  simp at hu
  omega
/-- Operations k .. m - 1, quiet over the class. -/
theorem at_seg {l : List Oper} {Q : Exit → Act → World → Prop} {a : Act} {w : World} (C : World → Prop) (k m : Nat) (seg : List Oper) (hseg : seg = (l.drop k).take (m - k)) (hkm : k ≤ m) (hm : m ≤ l.length) (hs : Region.noSelect l.toArray = true) (ha : aheadB .any l.toArray = true)
    (hg : m < l.length → gateB .any l.toArray k m = true) (hL : lexL .any l.toArray k seg = true) (hw : C w) (h : wpQuiet P l.toArray C (fun a' => ∀ w', C w' → RegAt P l Q m a' w') seg a) : RegAt P l Q k a w := by
  have hlen : seg.length = m - k := by rw [hseg, List.length_take, List.length_drop]; omega
  have hp := wpPartQ_lex (P := P) (md := .any) (C := C) (m := m) hs (by simpa using hm) seg k a (fun j hj => by
    rw [hlen] at hj
    rw [hseg, List.getElem?_take_of_lt hj, List.getElem?_drop, List.getElem?_toArray]) (by omega) hL h
  have hmid : Mid .any l.toArray k m (preB l.length k) := by
    refine ⟨by rw [preB_size]; simp, fun i hi => by rw [preB_getD (by omega)]; simpa using hi, fun i h1 h2 => by rw [List.size_toArray] at h2; rw [preB_getD h2]; simp; omega, fun j o hj hl e he hb => ?_⟩
    have hjs : j < l.toArray.size := (Array.getElem?_eq_some_iff.1 hj).1
    rw [List.size_toArray] at hjs
    rw [preB_getD hjs] at hl
    have hlt := ahead_spec ha hj he hb
    rw [preB_getD (by omega)]
    have : j < k := by simpa using hl
    simp
    omega
  have hleft : leftB m (preB l.length k) = m - k := by
    unfold leftB
    have e : (List.range m).filter (fun i => !(preB l.length k).getD i true) = (List.range m).filter (fun i => decide (k ≤ i)) := by
      apply List.filter_congr
      intro i hi
      rw [preB_getD (by have := List.mem_range.1 hi; omega)]
      by_cases hik : i < k
      · have : ¬ k ≤ i := by omega
        simp [hik, this]
      · have : k ≤ i := by omega
        simp [hik, this]
    rw [e]
    have : List.range m = List.range k ++ (List.range (m - k)).map (k + ·) := by rw [← List.range_add]; congr 1; omega
    rw [this, List.filter_append, List.length_append]
    rw [List.filter_eq_nil_iff.2 (by intro i hi; have := List.mem_range.1 hi; simp; omega), List.filter_eq_self.2 (by intro i hi; obtain ⟨j, _, rfl⟩ := List.mem_map.1 hi; simp)]
    simp
  unfold RegAt
  have e : l.length - k = (l.length - m) + (m - k) := by omega
  rw [e]
  rw [List.size_toArray] at hp
  rw [hlen] at hp
  refine wpAny_of_part (C := C) (by simpa using hm) ha (by simpa using hg) (fun a' w' hw' hq => ?_) (m - k) _ a w hw hmid hleft hp
  have := hq w' hw'
  unfold RegAt at this
  simpa using this
/-- Operation k alone, behind which all others wait, at the very world. -/
theorem at_one {l : List Oper} {Q : Exit → Act → World → Prop} {a : Act} {w : World} (k : Nat) (o : Oper) (ho : l[k]? = some o) (ha : aheadB .any l.toArray = true) (hg : gateB .any l.toArray k k = true)
    (h : ∀ K : Act → World → Prop, (∀ a w, RegAt P l Q (k + 1) a w → K a w) → wpList P l.toArray (Exit.then K Q) [o] a w) : RegAt P l Q k a w := by
  have hks : k < l.length := (List.getElem?_eq_some_iff.1 ho).1
  have hoA : l.toArray[k]? = some o := by rw [List.getElem?_toArray]; exact ho
  have hmid : Mid .any l.toArray k k (preB l.length k) := by
    refine ⟨by rw [preB_size]; simp, fun i hi => by rw [preB_getD (by omega)]; simpa using hi, fun i h1 h2 => by rw [List.size_toArray] at h2; rw [preB_getD h2]; simp; omega, fun j o hj hl e he hb => ?_⟩
    have hjs : j < l.toArray.size := (Array.getElem?_eq_some_iff.1 hj).1
    rw [List.size_toArray] at hjs
    rw [preB_getD hjs] at hl
    have hlt := ahead_spec ha hj he hb
    rw [preB_getD (by omega)]
    have : j < k := by simpa using hl
    simp
    omega
  have hr : k ∈ Region.ready .any l.toArray (preB l.length k) := by
    rw [mem_ready]
    refine ⟨by rw [preB_getD hks]; simp, o, hoA, fun e he hb => ?_⟩
    have hlt := ahead_spec ha hoA he hb
    rw [preB_getD (by omega)]
    simpa using hlt
  unfold RegAt
  have e : l.length - k = (l.length - (k + 1)) + 1 := by omega
  rw [e]
  refine ⟨fun h0 => (by rw [h0] at hr; cases hr), fun i hi => ?_⟩
  have hik : i = k := by
    obtain ⟨hu, oi, hoi, hall⟩ := mem_ready.1 hi
    have his : i < l.length := by have := (Array.getElem?_eq_some_iff.1 hoi).1; rwa [List.size_toArray] at this
    rw [preB_getD his] at hu
    have hge : k ≤ i := by simpa using hu
    refine Classical.byContradiction fun hne => ?_
    simp only [gateB, Bool.and_eq_true] at hg
    have h1 := List.all_eq_true.1 hg.2 i (List.mem_range.2 (by simpa using his))
    rw [hoi] at h1
    have hlt : Nat.blt k i = true := by simp [Nat.blt_eq]; omega
    rw [hlt] at h1
    simp only [Bool.not_true, Bool.false_or, Option.map_some, Option.getD_some] at h1
    obtain ⟨ee, he, hx⟩ := Array.any_eq_true'.1 h1
    rw [Bool.and_eq_true] at hx
    have h2 := hall ee he hx.1
    have hme : k ≤ ee.on := by simpa [Nat.ble_eq] using hx.2
    have hlt2 := ahead_spec ha hoi he hx.1
    rw [preB_getD (by omega)] at h2
    simp at h2
    omega
  subst hik
  have h2 := h (wpAny P .any l.toArray Q (l.length - (i + 1)) ((preB l.length i).setIfInBounds i true)) (fun a' w' hh => by
    unfold RegAt at hh
    rwa [← preB_set hks] at hh)
  unfold wpOp
  rw [hoA]
  simp only
  simp only [wpList] at h2
  split
  · rename_i hwn
    rw [if_pos hwn] at h2
    rcases h2 with h3 | h3
    · left
      unfold Oper.wp at h3 ⊢
      generalize (execOp a.eval o).run P w = r at *
      cases r with
      | ok n w' =>
        cases n <;> simp only [Oper.upon] at h3 ⊢ <;>
          first
            | exact h3
            | exact Calls.mono h3 (fun e w'' he => by cases e <;> exact he)
            | exact Rows.mono h3 (fun _ _ he => he)
      | halt x w' => cases x <;> simp only [Oper.upon] at h3 ⊢ <;> exact h3
    · right
      exact h3
  · rename_i hwn
    rw [if_neg hwn] at h2
    exact h2
end
end Go.Proofs.YtbbglpjhblhkdaaGreat
namespace Go.Proofs.YtbbglpjhblhkdaaGreat
open Go.RowKit Go.Maps
set_option linter.unusedVariables false
set_option maxRecDepth 100000

/-- Four packers beside one another. -/
structure Four (W wx : World) (F1 F2 F3 F4 : Nat → Prop) (g1 g2 g3 g4 : Nat) (s1 s2 s3 s4 : PS) : Prop where
  p1 : PK wx W.heap.size F1 g1 65535 s1
  p2 : PK wx W.heap.size F2 g2 65535 s2
  p3 : PK wx W.heap.size F3 g3 65535 s3
  p4 : PK wx W.heap.size F4 g4 65535 s4
  a12 : ∀ k, F1 k → ¬ F2 k
  a13 : ∀ k, F1 k → ¬ F3 k
  a14 : ∀ k, F1 k → ¬ F4 k
  a23 : ∀ k, F2 k → ¬ F3 k
  a24 : ∀ k, F2 k → ¬ F4 k
  a34 : ∀ k, F3 k → ¬ F4 k
  bel : Below W.heap.size W wx
section
variable {W wx wy : World} {F1 F2 F3 F4 F' : Nat → Prop} {g1 g2 g3 g4 : Nat} {s1 s2 s3 s4 s' : PS}
theorem Four.next (h : Four W wx F1 F2 F3 F4 g1 g2 g3 g4 s1 s2 s3 s4) (hb : Below wx.heap.size wx wy) : Four W wy F1 F2 F3 F4 g1 g2 g3 g4 s1 s2 s3 s4 :=
  ⟨h.p1.next hb, h.p2.next hb, h.p3.next hb, h.p4.next hb, h.a12, h.a13, h.a14, h.a23, h.a24, h.a34, h.bel.trans (hb.mono h.bel.size)⟩
theorem Four.put1 (h : Four W wx F1 F2 F3 F4 g1 g2 g3 g4 s1 s2 s3 s4) (hk : Kf W.heap.size F1 F' wx wy) (hp : PK wy W.heap.size F' g1 65535 s') : Four W wy F' F2 F3 F4 g1 g2 g3 g4 s' s2 s3 s4 :=
  ⟨hp, h.p2.other hk (apart_symm h.a12), h.p3.other hk (apart_symm h.a13), h.p4.other hk (apart_symm h.a14), apart_next h.a12 hk h.p2, apart_next h.a13 hk h.p3, apart_next h.a14 hk h.p4, h.a23, h.a24, h.a34, h.bel.trans hk.below⟩
theorem Four.put2 (h : Four W wx F1 F2 F3 F4 g1 g2 g3 g4 s1 s2 s3 s4) (hk : Kf W.heap.size F2 F' wx wy) (hp : PK wy W.heap.size F' g2 65535 s') : Four W wy F1 F' F3 F4 g1 g2 g3 g4 s1 s' s3 s4 :=
  ⟨h.p1.other hk h.a12, hp, h.p3.other hk (apart_symm h.a23), h.p4.other hk (apart_symm h.a24), apart_symm (apart_next (apart_symm h.a12) hk h.p1), h.a13, h.a14, apart_next h.a23 hk h.p3, apart_next h.a24 hk h.p4, h.a34, h.bel.trans hk.below⟩
theorem Four.put3 (h : Four W wx F1 F2 F3 F4 g1 g2 g3 g4 s1 s2 s3 s4) (hk : Kf W.heap.size F3 F' wx wy) (hp : PK wy W.heap.size F' g3 65535 s') : Four W wy F1 F2 F' F4 g1 g2 g3 g4 s1 s2 s' s4 :=
  ⟨h.p1.other hk h.a13, h.p2.other hk h.a23, hp, h.p4.other hk (apart_symm h.a34), h.a12, apart_symm (apart_next (apart_symm h.a13) hk h.p1), h.a14, apart_symm (apart_next (apart_symm h.a23) hk h.p2), h.a24, apart_next h.a34 hk h.p4, h.bel.trans hk.below⟩
theorem Four.put4 (h : Four W wx F1 F2 F3 F4 g1 g2 g3 g4 s1 s2 s3 s4) (hk : Kf W.heap.size F4 F' wx wy) (hp : PK wy W.heap.size F' g4 65535 s') : Four W wy F1 F2 F3 F' g1 g2 g3 g4 s1 s2 s3 s' :=
  ⟨h.p1.other hk h.a14, h.p2.other hk h.a24, h.p3.other hk h.a34, hp, h.a12, h.a13, apart_symm (apart_next (apart_symm h.a14) hk h.p1), h.a23, apart_symm (apart_next (apart_symm h.a24) hk h.p2), apart_symm (apart_next (apart_symm h.a34) hk h.p3), h.bel.trans hk.below⟩
end
/-- The boxes of the four arguments. -/
def Bx4 (w : World) (a b : MR) (ta tb : Value) (q r : MQ) (wx : World) : Prop :=
  Lies wx w.heap.size 33 (cellsR a ta) ∧ Lies wx (w.heap.size + 1) 33 (cellsR b tb) ∧ Lies wx (w.heap.size + 2) 38 (cellsQ q) ∧ Lies wx (w.heap.size + 3) 38 (cellsQ r)
theorem bx4 (w : World) (a b : MR) (ta tb : Value) (q r : MQ) : ∃ W, W = (((w.alloc (.cells (cellsR a ta) 33)).alloc (.cells (cellsR b tb) 33)).alloc (.cells (cellsQ q) 38)).alloc (.cells (cellsQ r) 38) ∧ Below w.heap.size w W ∧ Bx4 w a b ta tb q r W := by
  have s1 : (w.alloc (.cells (cellsR a ta) 33)).heap.size = w.heap.size + 1 := by simp
  have s2 : ((w.alloc (.cells (cellsR a ta) 33)).alloc (.cells (cellsR b tb) 33)).heap.size = w.heap.size + 2 := by simp
  have s3 : (((w.alloc (.cells (cellsR a ta) 33)).alloc (.cells (cellsR b tb) 33)).alloc (.cells (cellsQ q) 38)).heap.size = w.heap.size + 3 := by simp
  have l1 := Lies.new (w.alloc (.cells (cellsR a ta) 33)) 33 (cellsR b tb)
  rw [s1] at l1
  have l2 := Lies.new ((w.alloc (.cells (cellsR a ta) 33)).alloc (.cells (cellsR b tb) 33)) 38 (cellsQ q)
  rw [s2] at l2
  have l3 := Lies.new (((w.alloc (.cells (cellsR a ta) 33)).alloc (.cells (cellsR b tb) 33)).alloc (.cells (cellsQ q) 38)) 38 (cellsQ r)
  rw [s3] at l3
  exact ⟨_, rfl, ((((Below.refl _ w).alloc (Nat.le_refl _) _).alloc (by omega) _).alloc (by omega) _).alloc (by omega) _, (((Lies.new w 33 (cellsR a ta)).alloc _).alloc _).alloc _, (l1.alloc _).alloc _, l2.alloc _, l3⟩
theorem Bx4.next {w W wx : World} {a b : MR} {ta tb : Value} {q r : MQ} (h : Bx4 w a b ta tb q r W) (hb : Below W.heap.size W wx) : Bx4 w a b ta tb q r wx := ⟨h.1.next hb, h.2.1.next hb, h.2.2.1.next hb, h.2.2.2.next hb⟩
theorem s6_of {w W wx : World} {a b : MR} {A B : Option Addr} {na nb ca cb : Nat} {q r : MQ} (h : Bx4 w a b (.slice A na ca) (.slice B nb cb) q r W) (hb : Below W.heap.size W wx) : wx.cell? ⟨w.heap.size, 0, none⟩ = some (.string a.n) ∧ wx.cell? ⟨w.heap.size, 1, none⟩ = some (.int .i64 a.t) ∧ wx.cell? ⟨w.heap.size, 2, none⟩ = some (.int .i64 a.c) ∧ wx.cell? ⟨w.heap.size, 3, none⟩ = some (.int .u32 (a.x : Int)) ∧ wx.cell? ⟨w.heap.size, 4, none⟩ = some (.bool a.d.six) ∧ wx.cell? ⟨w.heap.size, 5, none⟩ = some (.int .u64 (a.d.hi : Int)) ∧ wx.cell? ⟨w.heap.size, 6, none⟩ = some (.int .u64 (a.d.lo : Int)) ∧ wx.cell? ⟨w.heap.size, 7, none⟩ = some (.string a.d.n) ∧ wx.cell? ⟨w.heap.size, 8, none⟩ = some (.string a.d.m) ∧ wx.cell? ⟨w.heap.size, 9, none⟩ = some (.int .u32 (a.d.v0 : Int)) ∧ wx.cell? ⟨w.heap.size, 10, none⟩ = some (.int .u32 (a.d.v1 : Int)) ∧ wx.cell? ⟨w.heap.size, 11, none⟩ = some (.int .u32 (a.d.v2 : Int)) ∧ wx.cell? ⟨w.heap.size, 12, none⟩ = some (.int .u32 (a.d.v3 : Int)) ∧ wx.cell? ⟨w.heap.size, 13, none⟩ = some (.int .u32 (a.d.v4 : Int)) ∧ wx.cell? ⟨w.heap.size, 14, none⟩ = some (Value.slice A na ca) ∧ wx.cell? ⟨w.heap.size, 15, none⟩ = some (.string a.d.r) ∧ wx.cell? ⟨w.heap.size + 1, 0, none⟩ = some (.string b.n) ∧ wx.cell? ⟨w.heap.size + 1, 1, none⟩ = some (.int .i64 b.t) ∧ wx.cell? ⟨w.heap.size + 1, 2, none⟩ = some (.int .i64 b.c) ∧ wx.cell? ⟨w.heap.size + 1, 3, none⟩ = some (.int .u32 (b.x : Int)) ∧ wx.cell? ⟨w.heap.size + 1, 4, none⟩ = some (.bool b.d.six) ∧ wx.cell? ⟨w.heap.size + 1, 5, none⟩ = some (.int .u64 (b.d.hi : Int)) ∧ wx.cell? ⟨w.heap.size + 1, 6, none⟩ = some (.int .u64 (b.d.lo : Int)) ∧ wx.cell? ⟨w.heap.size + 1, 7, none⟩ = some (.string b.d.n) ∧ wx.cell? ⟨w.heap.size + 1, 8, none⟩ = some (.string b.d.m) ∧ wx.cell? ⟨w.heap.size + 1, 9, none⟩ = some (.int .u32 (b.d.v0 : Int)) ∧ wx.cell? ⟨w.heap.size + 1, 10, none⟩ = some (.int .u32 (b.d.v1 : Int)) ∧ wx.cell? ⟨w.heap.size + 1, 11, none⟩ = some (.int .u32 (b.d.v2 : Int)) ∧ wx.cell? ⟨w.heap.size + 1, 12, none⟩ = some (.int .u32 (b.d.v3 : Int)) ∧ wx.cell? ⟨w.heap.size + 1, 13, none⟩ = some (.int .u32 (b.d.v4 : Int)) ∧ wx.cell? ⟨w.heap.size + 1, 14, none⟩ = some (Value.slice B nb cb) ∧ wx.cell? ⟨w.heap.size + 1, 15, none⟩ = some (.string b.d.r) := by
  have h1 := (h.next hb).1
  have h2 := (h.next hb).2.1
  exact ⟨h1.cell 0, h1.cell 1, h1.cell 2, h1.cell 3, h1.cell 4, h1.cell 5, h1.cell 6, h1.cell 7, h1.cell 8, h1.cell 9, h1.cell 10, h1.cell 11, h1.cell 12, h1.cell 13, h1.cell 14, h1.cell 15, h2.cell 0, h2.cell 1, h2.cell 2, h2.cell 3, h2.cell 4, h2.cell 5, h2.cell 6, h2.cell 7, h2.cell 8, h2.cell 9, h2.cell 10, h2.cell 11, h2.cell 12, h2.cell 13, h2.cell 14, h2.cell 15⟩
theorem s8_of {w W wx : World} {a b : MR} {ta tb : Value} {q r : MQ} (h : Bx4 w a b ta tb q r W) (hb : Below W.heap.size W wx) : wx.cell? ⟨w.heap.size + 2, 0, none⟩ = some (.string q.n) ∧ wx.cell? ⟨w.heap.size + 2, 1, none⟩ = some (.int .i64 q.t) ∧ wx.cell? ⟨w.heap.size + 2, 2, none⟩ = some (.int .i64 q.c) ∧ wx.cell? ⟨w.heap.size + 3, 0, none⟩ = some (.string r.n) ∧ wx.cell? ⟨w.heap.size + 3, 1, none⟩ = some (.int .i64 r.t) ∧ wx.cell? ⟨w.heap.size + 3, 2, none⟩ = some (.int .i64 r.c) := by
  have h1 := (h.next hb).2.2.1
  have h2 := (h.next hb).2.2.2
  exact ⟨h1.cell 0, h1.cell 1, h1.cell 2, h2.cell 0, h2.cell 1, h2.cell 2⟩
theorem class_ofE (W : World) : ∃ (Ix : Type) (f : Ix → World) (i0 : Ix), W = f i0 ∧ (∀ n, Below W.heap.size W (f n)) ∧ (∀ n w'', Below (f n).heap.size (f n) w'' → ∃ m, w'' = f m) :=
  ⟨{w' // Below W.heap.size W w'}, Subtype.val, ⟨W, Below.refl _ _⟩, rfl, fun n => n.2, fun n w'' h => ⟨⟨w'', n.2.trans (h.mono n.2.size)⟩, rfl⟩⟩
end Go.Proofs.YtbbglpjhblhkdaaGreat
namespace Go.Proofs.YtbbglpjhblhkdaaGreat
open Go.RowKit Go.Maps
set_option linter.unusedVariables false
set_option maxRecDepth 100000

set_option maxHeartbeats 4000000 in
theorem Unlike_long1 (a : MR) (ta : Value) (b : MR) (tb : Value) (q r : MQ) (w : World) (fa : FitR w a ta) (fb : FitR w b tb) (hqn : q.n.size ≤ maxLen) (hrn : r.n.size ≤ maxLen) (d1 : ¬ q.n.size ≤ 400) :
    Calls Tryz.prog 6 #[recV a ta, recV b tb, questV q, questV r] w fun e w' => e = .returned (.bool true) ∧ Below w.heap.size w w' := by
  obtain ⟨W, hW, hB, hbx⟩ := bx4 w a b ta tb q r
  obtain ⟨A, ca, hta, _, _⟩ := fa.d.row.shape
  obtain ⟨B, cb, htb, _, _⟩ := fb.d.row.shape
  have hta' : ∃ n, ta = Value.slice A n ca := ⟨_, hta⟩
  have htb' : ∃ n, tb = Value.slice B n cb := ⟨_, htb⟩
  clear hta htb
  obtain ⟨na, hta⟩ := hta'
  obtain ⟨nb, htb⟩ := htb'
  have HBw := Lib.hid fun w' (hb : Below W.heap.size W w') => hB.trans (hb.mono hB.size)
  have HBa := Lib.hid (blk_ltC (fa.next hB).d.row)
  have HBb := Lib.hid (blk_ltC (fb.next hB).d.row)
  have HLv := Lib.hid lives10
  have HLa := Lib.hid fun w' (hb : Below W.heap.size W w') => rcLight_any a ta w' ((fa.next hB).next hb)
  have HLb := Lib.hid fun w' (hb : Below W.heap.size W w') => rcLight_any b tb w' ((fb.next hB).next hb)
  subst hta htb
  have HS6 := Lib.hid fun wx (hb : Below W.heap.size W wx) => s6_of hbx hb
  have HS8 := Lib.hid fun wx (hb : Below W.heap.size W wx) => s8_of hbx hb
  clear fa fb hbx hB hqn hrn
  unfold recV cellsR questV cellsQ at *
  have eq : decide ((400 : Int) < (q.n.size : Int)) = true := decide_eq_true (by omega)
  have fq : decide (400 < q.n.size) = true := decide_eq_true (by omega)
  clear d1
  go_enter Tryz.func6, Tryz.ntmps6
  go_wp2_with fail
  rw [← hW]
  clear hW
  refine (HLv.out _).mono ?_
  rintro e w1 ⟨rfl, hb1⟩
  have HB1 := Lib.hid hb1
  obtain ⟨x0, x1, x2, x3, x4, x5, x6, x7, x8, x9, x10, x11, x12, x13, x14, x15, y0, y1, y2, y3, y4, y5, y6, y7, y8, y9, y10, y11, y12, y13, y14, y15⟩ := HS6.out w1 hb1
  clear hb1
  go_wp2_with fail
  refine (HLa.out _ HB1.out).mono ?_
  rintro e w2 ⟨la, rfl, hb⟩
  have hb2 := HB1.out.trans (hb.mono HB1.out.size)
  have HB2 := Lib.hid hb2
  clear x0 x1 x2 x3 x4 x5 x6 x7 x8 x9 x10 x11 x12 x13 x14 x15 y0 y1 y2 y3 y4 y5 y6 y7 y8 y9 y10 y11 y12 y13 y14 y15
  obtain ⟨x0, x1, x2, x3, x4, x5, x6, x7, x8, x9, x10, x11, x12, x13, x14, x15, y0, y1, y2, y3, y4, y5, y6, y7, y8, y9, y10, y11, y12, y13, y14, y15⟩ := HS6.out w2 hb2
  clear hb hb2 HB1
  cases la
  · go_wp2
    go_ret
    exact ⟨rfl, HBw.out _ HB2.out⟩
  · go_wp2_with fail
    refine (HLb.out _ HB2.out).mono ?_
    rintro e w3 ⟨lb, rfl, hb⟩
    have hb3 := HB2.out.trans (hb.mono HB2.out.size)
    have HB3 := Lib.hid hb3
    clear x0 x1 x2 x3 x4 x5 x6 x7 x8 x9 x10 x11 x12 x13 x14 x15 y0 y1 y2 y3 y4 y5 y6 y7 y8 y9 y10 y11 y12 y13 y14 y15
    obtain ⟨z0, z1, z2, z3, z4, z5⟩ := HS8.out w3 hb3
    clear hb hb3 HB2
    cases lb
    · go_wp2
      go_ret
      exact ⟨rfl, HBw.out _ HB3.out⟩
    · go_wp2
      go_ret
      exact ⟨rfl, HBw.out _ HB3.out⟩
set_option maxHeartbeats 4000000 in
theorem Unlike_long2 (a : MR) (ta : Value) (b : MR) (tb : Value) (q r : MQ) (w : World) (fa : FitR w a ta) (fb : FitR w b tb) (hqn : q.n.size ≤ maxLen) (hrn : r.n.size ≤ maxLen) (d1 : q.n.size ≤ 400) (d2 : ¬ r.n.size ≤ 400) :
    Calls Tryz.prog 6 #[recV a ta, recV b tb, questV q, questV r] w fun e w' => e = .returned (.bool true) ∧ Below w.heap.size w w' := by
  obtain ⟨W, hW, hB, hbx⟩ := bx4 w a b ta tb q r
  obtain ⟨A, ca, hta, _, _⟩ := fa.d.row.shape
  obtain ⟨B, cb, htb, _, _⟩ := fb.d.row.shape
  have hta' : ∃ n, ta = Value.slice A n ca := ⟨_, hta⟩
  have htb' : ∃ n, tb = Value.slice B n cb := ⟨_, htb⟩
  clear hta htb
  obtain ⟨na, hta⟩ := hta'
  obtain ⟨nb, htb⟩ := htb'
  have HBw := Lib.hid fun w' (hb : Below W.heap.size W w') => hB.trans (hb.mono hB.size)
  have HBa := Lib.hid (blk_ltC (fa.next hB).d.row)
  have HBb := Lib.hid (blk_ltC (fb.next hB).d.row)
  have HLv := Lib.hid lives10
  have HLa := Lib.hid fun w' (hb : Below W.heap.size W w') => rcLight_any a ta w' ((fa.next hB).next hb)
  have HLb := Lib.hid fun w' (hb : Below W.heap.size W w') => rcLight_any b tb w' ((fb.next hB).next hb)
  subst hta htb
  have HS6 := Lib.hid fun wx (hb : Below W.heap.size W wx) => s6_of hbx hb
  have HS8 := Lib.hid fun wx (hb : Below W.heap.size W wx) => s8_of hbx hb
  clear fa fb hbx hB hqn hrn
  unfold recV cellsR questV cellsQ at *
  have eq : decide ((400 : Int) < (q.n.size : Int)) = false := decide_eq_false (by omega)
  have fq : decide (400 < q.n.size) = false := decide_eq_false (by omega)
  have er : decide ((400 : Int) < (r.n.size : Int)) = true := decide_eq_true (by omega)
  have fr : decide (400 < r.n.size) = true := decide_eq_true (by omega)
  clear d1 d2
  go_enter Tryz.func6, Tryz.ntmps6
  go_wp2_with fail
  rw [← hW]
  clear hW
  refine (HLv.out _).mono ?_
  rintro e w1 ⟨rfl, hb1⟩
  have HB1 := Lib.hid hb1
  obtain ⟨x0, x1, x2, x3, x4, x5, x6, x7, x8, x9, x10, x11, x12, x13, x14, x15, y0, y1, y2, y3, y4, y5, y6, y7, y8, y9, y10, y11, y12, y13, y14, y15⟩ := HS6.out w1 hb1
  clear hb1
  go_wp2_with fail
  refine (HLa.out _ HB1.out).mono ?_
  rintro e w2 ⟨la, rfl, hb⟩
  have hb2 := HB1.out.trans (hb.mono HB1.out.size)
  have HB2 := Lib.hid hb2
  clear x0 x1 x2 x3 x4 x5 x6 x7 x8 x9 x10 x11 x12 x13 x14 x15 y0 y1 y2 y3 y4 y5 y6 y7 y8 y9 y10 y11 y12 y13 y14 y15
  obtain ⟨x0, x1, x2, x3, x4, x5, x6, x7, x8, x9, x10, x11, x12, x13, x14, x15, y0, y1, y2, y3, y4, y5, y6, y7, y8, y9, y10, y11, y12, y13, y14, y15⟩ := HS6.out w2 hb2
  clear hb hb2 HB1
  cases la
  · go_wp2
    go_ret
    exact ⟨rfl, HBw.out _ HB2.out⟩
  · go_wp2_with fail
    refine (HLb.out _ HB2.out).mono ?_
    rintro e w3 ⟨lb, rfl, hb⟩
    have hb3 := HB2.out.trans (hb.mono HB2.out.size)
    have HB3 := Lib.hid hb3
    clear x0 x1 x2 x3 x4 x5 x6 x7 x8 x9 x10 x11 x12 x13 x14 x15 y0 y1 y2 y3 y4 y5 y6 y7 y8 y9 y10 y11 y12 y13 y14 y15
    obtain ⟨z0, z1, z2, z3, z4, z5⟩ := HS8.out w3 hb3
    clear hb hb3 HB2
    cases lb
    · go_wp2
      go_ret
      exact ⟨rfl, HBw.out _ HB3.out⟩
    · go_wp2
      go_ret
      exact ⟨rfl, HBw.out _ HB3.out⟩
end Go.Proofs.YtbbglpjhblhkdaaGreat
namespace Go.Proofs.YtbbglpjhblhkdaaGreat
open Go.RowKit Go.Maps
set_option linter.unusedVariables false
set_option maxRecDepth 100000

set_option maxHeartbeats 8000000 in
theorem Unlike_short (a : MR) (ta : Value) (b : MR) (tb : Value) (q r : MQ) (w : World) (fa : FitR w a ta) (fb : FitR w b tb) (hqn : q.n.size ≤ maxLen) (hrn : r.n.size ≤ maxLen) (d1 : q.n.size ≤ 400) (d2 : r.n.size ≤ 400) :
    Calls Tryz.prog 6 #[recV a ta, recV b tb, questV q, questV r] w fun e w' => e = .returned (.bool true) ∧ Below w.heap.size w w' := by
  obtain ⟨W, hW, hB, hbx⟩ := bx4 w a b ta tb q r
  obtain ⟨A, ca, hta, _, _⟩ := fa.d.row.shape
  obtain ⟨B, cb, htb, _, _⟩ := fb.d.row.shape
  have hta' : ∃ n, ta = Value.slice A n ca := ⟨_, hta⟩
  have htb' : ∃ n, tb = Value.slice B n cb := ⟨_, htb⟩
  clear hta htb
  obtain ⟨na, hta⟩ := hta'
  obtain ⟨nb, htb⟩ := htb'
  have HBw := Lib.hid fun w' (hb : Below W.heap.size W w') => hB.trans (hb.mono hB.size)
  have HBa := Lib.hid (blk_ltC (fa.next hB).d.row)
  have HBb := Lib.hid (blk_ltC (fb.next hB).d.row)
  have HLv := Lib.hid lives10
  have HLa := Lib.hid fun w' (hb : Below W.heap.size W w') => rcLight_any a ta w' ((fa.next hB).next hb)
  have HLb := Lib.hid fun w' (hb : Below W.heap.size W w') => rcLight_any b tb w' ((fb.next hB).next hb)
  have HNew : Hid (∀ wx, Calls Tryz.prog 16 #[.int .i64 65535] wx (NewP wx 65535)) := Lib.hid fun wx => pNew_any 65535 wx (by decide)
  have hPa := fun wx F g s (hp : PK wx W.heap.size F g 65535 s) (hb : Below W.heap.size W wx) => rcPut_any a ta wx hp ((fa.next hB).next hb) HBa.out
  have hPb := fun wx F g s (hp : PK wx W.heap.size F g 65535 s) (hb : Below W.heap.size W wx) => rcPut_any b tb wx hp ((fb.next hB).next hb) HBb.out
  have hPq := fun wx F g s (hp : PK wx W.heap.size F g 65535 s) => rcPutQ_any q wx hp hqn
  have hPr := fun wx F g s (hp : PK wx W.heap.size F g 65535 s) => rcPutQ_any r wx hp hrn
  have hSm := fun w' (hb : Below W.heap.size W w') => rcSame_any a b ta tb w' ((fa.next hB).next hb) ((fb.next hB).next hb)
  have hSq := fun w' => rcSameQ_any q r w'
  have hur := unlikeR (a := a) (b := b) ⟨fa.d.hi, fa.d.lo⟩ ⟨fb.d.hi, fb.d.lo⟩ fa.x fb.x
  have huq := unlikeQ (a := q) (b := r)
  have hA1 := fun wx F1 F2 F3 F4 g1 g2 g3 g4 s2 s3 s4 (h : Four W wx F1 F2 F3 F4 g1 g2 g3 g4 ps0 s2 s3 s4) => hPa _ _ _ _ h.p1 h.bel
  have hA2 := fun wx F1 F2 F3 F4 g1 g2 g3 g4 s1 s3 s4 (h : Four W wx F1 F2 F3 F4 g1 g2 g3 g4 s1 ps0 s3 s4) => hPb _ _ _ _ h.p2 h.bel
  have hA3 := fun wx F1 F2 F3 F4 g1 g2 g3 g4 s1 s2 s4 (h : Four W wx F1 F2 F3 F4 g1 g2 g3 g4 s1 s2 ps0 s4) => hPq _ _ _ _ h.p3
  have hA4 := fun wx F1 F2 F3 F4 g1 g2 g3 g4 s1 s2 s3 (h : Four W wx F1 F2 F3 F4 g1 g2 g3 g4 s1 s2 s3 ps0) => hPr _ _ _ _ h.p4
  obtain ⟨qa, hqa⟩ : ∃ x, putR 65535 a ps0 = x := ⟨_, rfl⟩
  obtain ⟨qb, hqb⟩ : ∃ x, putR 65535 b ps0 = x := ⟨_, rfl⟩
  obtain ⟨qq, hqq⟩ : ∃ x, putQ 65535 q ps0 = x := ⟨_, rfl⟩
  obtain ⟨qr, hqr⟩ : ∃ x, putQ 65535 r ps0 = x := ⟨_, rfl⟩
  obtain ⟨sm, hsm⟩ : ∃ x, sameR a b = x := ⟨_, rfl⟩
  obtain ⟨sq, hsq⟩ : ∃ x, sameQ q r = x := ⟨_, rfl⟩
  rw [hqa] at hA1 hur
  rw [hqb] at hA2 hur
  rw [hqq] at hA3 huq
  rw [hqr] at hA4 huq
  rw [hsm] at hSm hur
  rw [hsq] at hSq huq
  have H1 := Lib.hid hA1
  have H2 := Lib.hid hA2
  have H3 := Lib.hid hA3
  have H4 := Lib.hid hA4
  have HSm := Lib.hid hSm
  have HSq := Lib.hid hSq
  have HUr := Lib.hid hur
  have HUq := Lib.hid huq
  clear hPa hPb hPq hPr hSm hSq hA1 hA2 hA3 hA4 hqa hqb hqq hqr hsm hsq hur huq
  subst hta htb
  have HS6 := Lib.hid fun wx (hb : Below W.heap.size W wx) => s6_of hbx hb
  have HS8 := Lib.hid fun wx (hb : Below W.heap.size W wx) => s8_of hbx hb
  clear fa fb hbx hB hqn hrn
  unfold recV cellsR questV cellsQ at *
  have eq : decide ((400 : Int) < (q.n.size : Int)) = false := decide_eq_false (by omega)
  have fq : decide (400 < q.n.size) = false := decide_eq_false (by omega)
  have er : decide ((400 : Int) < (r.n.size : Int)) = false := decide_eq_false (by omega)
  have fr : decide (400 < r.n.size) = false := decide_eq_false (by omega)
  clear d1 d2
  go_enter Tryz.func6, Tryz.ntmps6
  go_wp2_with fail
  rw [← hW]
  clear hW
  refine (HLv.out _).mono ?_
  rintro e w1 ⟨rfl, hb1⟩
  have HB1 := Lib.hid hb1
  obtain ⟨x0, x1, x2, x3, x4, x5, x6, x7, x8, x9, x10, x11, x12, x13, x14, x15, y0, y1, y2, y3, y4, y5, y6, y7, y8, y9, y10, y11, y12, y13, y14, y15⟩ := HS6.out w1 hb1
  clear hb1
  go_wp2_with fail
  refine (HLa.out _ HB1.out).mono ?_
  rintro e w2 ⟨la, rfl, hb⟩
  have hb2 := HB1.out.trans (hb.mono HB1.out.size)
  have HB2 := Lib.hid hb2
  clear x0 x1 x2 x3 x4 x5 x6 x7 x8 x9 x10 x11 x12 x13 x14 x15 y0 y1 y2 y3 y4 y5 y6 y7 y8 y9 y10 y11 y12 y13 y14 y15
  obtain ⟨x0, x1, x2, x3, x4, x5, x6, x7, x8, x9, x10, x11, x12, x13, x14, x15, y0, y1, y2, y3, y4, y5, y6, y7, y8, y9, y10, y11, y12, y13, y14, y15⟩ := HS6.out w2 hb2
  clear hb hb2 HB1
  cases la
  · go_wp2
    go_ret
    exact ⟨rfl, HBw.out _ HB2.out⟩
  · go_wp2_with fail
    refine (HLb.out _ HB2.out).mono ?_
    rintro e w3 ⟨lb, rfl, hb⟩
    have hb3 := HB2.out.trans (hb.mono HB2.out.size)
    have HB3 := Lib.hid hb3
    clear x0 x1 x2 x3 x4 x5 x6 x7 x8 x9 x10 x11 x12 x13 x14 x15 y0 y1 y2 y3 y4 y5 y6 y7 y8 y9 y10 y11 y12 y13 y14 y15
    obtain ⟨z0, z1, z2, z3, z4, z5⟩ := HS8.out w3 hb3
    clear hb hb3 HB2
    cases lb
    · go_wp2
      go_ret
      exact ⟨rfl, HBw.out _ HB3.out⟩
    · have hz3 := HB3.out.size
      go_wp2_with fail
      clear z0 z1 z2 z3 z4 z5
      refine (HNew.out _).mono ?_
      rintro e w4 ⟨g1, F1, rfl, hp1, hb⟩
      have hB4 := HB3.out.trans (hb.mono hz3)
      clear hb
      go_wp2_with fail
      refine (HNew.out _).mono ?_
      rintro e w5 ⟨g2, F2, rfl, hp2, hb⟩
      have a12 := apart_new hp1 hp2 (Nat.le_refl _)
      have q1 := hp1.next hb
      have hB5 := hB4.trans (hb.mono hB4.size)
      clear hb
      go_wp2_with fail
      refine (HNew.out _).mono ?_
      rintro e w6 ⟨g3, F3, rfl, hp3, hb⟩
      have a13 := apart_new q1 hp3 (Nat.le_refl _)
      have a23 := apart_new hp2 hp3 (Nat.le_refl _)
      have r1 := q1.next hb
      have r2 := hp2.next hb
      have hB6 := hB5.trans (hb.mono hB5.size)
      clear hb
      go_wp2_with fail
      refine (HNew.out _).mono ?_
      rintro e w7 ⟨g4, F4, rfl, hp4, hb⟩
      have a14 := apart_new r1 hp4 (Nat.le_refl _)
      have a24 := apart_new r2 hp4 (Nat.le_refl _)
      have a34 := apart_new hp3 hp4 (Nat.le_refl _)
      have hB7 := hB6.trans (hb.mono hB6.size)
      have HF := Lib.hid (show Four W w7 F1 F2 F3 F4 g1 g2 g3 g4 ps0 ps0 ps0 ps0 from ⟨(r1.next hb).lower hz3, (r2.next hb).lower hB4.size, (hp3.next hb).lower hB5.size, hp4.lower hB6.size, a12, a13, a14, a23, a24, a34, hB7⟩)
      clear hb hp1 hp2 hp3 hp4 q1 r1 r2 a12 a13 a14 a23 a24 a34 hB4 hB5 hB6 hB7 hz3 HB3 HNew HLv HLa HLb HBa HBb
      go_upto_region 6 with (fail)
      go_cut [59] (fun v wc => v = .bool false ∧ ∃ F1 F2 s1 s2, Four W wc F1 F2 F3 F4 g1 g2 g3 g4 s1 s2 ps0 ps0)
      case first => as_aux_lemma =>
        clear H3 H4 HSq HUq HS8 HBw
        refine region_at (by as_aux_lemma => kernel_rfl) ?_
        obtain ⟨Ix, f, i0, hf0, hCn, hstep⟩ := class_ofC w7
        haveI : Nonempty Ix := ⟨i0⟩
        have HFn := Lib.hid fun n => HF.out.next (hCn n)
        have hS := fun n => HS6.out _ (HFn.out n).bel
        have x0 := fun n => (hS n).1
        have x1 := fun n => (hS n).2.1
        have x2 := fun n => (hS n).2.2.1
        have x3 := fun n => (hS n).2.2.2.1
        have x4 := fun n => (hS n).2.2.2.2.1
        have x5 := fun n => (hS n).2.2.2.2.2.1
        have x6 := fun n => (hS n).2.2.2.2.2.2.1
        have x7 := fun n => (hS n).2.2.2.2.2.2.2.1
        have x8 := fun n => (hS n).2.2.2.2.2.2.2.2.1
        have x9 := fun n => (hS n).2.2.2.2.2.2.2.2.2.1
        have x10 := fun n => (hS n).2.2.2.2.2.2.2.2.2.2.1
        have x11 := fun n => (hS n).2.2.2.2.2.2.2.2.2.2.2.1
        have x12 := fun n => (hS n).2.2.2.2.2.2.2.2.2.2.2.2.1
        have x13 := fun n => (hS n).2.2.2.2.2.2.2.2.2.2.2.2.2.1
        have x14 := fun n => (hS n).2.2.2.2.2.2.2.2.2.2.2.2.2.2.1
        have x15 := fun n => (hS n).2.2.2.2.2.2.2.2.2.2.2.2.2.2.2.1
        have y0 := fun n => (hS n).2.2.2.2.2.2.2.2.2.2.2.2.2.2.2.2.1
        have y1 := fun n => (hS n).2.2.2.2.2.2.2.2.2.2.2.2.2.2.2.2.2.1
        have y2 := fun n => (hS n).2.2.2.2.2.2.2.2.2.2.2.2.2.2.2.2.2.2.1
        have y3 := fun n => (hS n).2.2.2.2.2.2.2.2.2.2.2.2.2.2.2.2.2.2.2.1
        have y4 := fun n => (hS n).2.2.2.2.2.2.2.2.2.2.2.2.2.2.2.2.2.2.2.2.1
        have y5 := fun n => (hS n).2.2.2.2.2.2.2.2.2.2.2.2.2.2.2.2.2.2.2.2.2.1
        have y6 := fun n => (hS n).2.2.2.2.2.2.2.2.2.2.2.2.2.2.2.2.2.2.2.2.2.2.1
        have y7 := fun n => (hS n).2.2.2.2.2.2.2.2.2.2.2.2.2.2.2.2.2.2.2.2.2.2.2.1
        have y8 := fun n => (hS n).2.2.2.2.2.2.2.2.2.2.2.2.2.2.2.2.2.2.2.2.2.2.2.2.1
        have y9 := fun n => (hS n).2.2.2.2.2.2.2.2.2.2.2.2.2.2.2.2.2.2.2.2.2.2.2.2.2.1
        have y10 := fun n => (hS n).2.2.2.2.2.2.2.2.2.2.2.2.2.2.2.2.2.2.2.2.2.2.2.2.2.2.1
        have y11 := fun n => (hS n).2.2.2.2.2.2.2.2.2.2.2.2.2.2.2.2.2.2.2.2.2.2.2.2.2.2.2.1
        have y12 := fun n => (hS n).2.2.2.2.2.2.2.2.2.2.2.2.2.2.2.2.2.2.2.2.2.2.2.2.2.2.2.2.1
        have y13 := fun n => (hS n).2.2.2.2.2.2.2.2.2.2.2.2.2.2.2.2.2.2.2.2.2.2.2.2.2.2.2.2.2.1
        have y14 := fun n => (hS n).2.2.2.2.2.2.2.2.2.2.2.2.2.2.2.2.2.2.2.2.2.2.2.2.2.2.2.2.2.2.1
        have y15 := fun n => (hS n).2.2.2.2.2.2.2.2.2.2.2.2.2.2.2.2.2.2.2.2.2.2.2.2.2.2.2.2.2.2.2
        clear hS
        clear hCn hstep
        refine at_seg (fun w' => ∃ n, w' = f n) 0 2 _ rfl (by decide) (by decide) (by as_aux_lemma => kernel_rfl) (by as_aux_lemma => kernel_rfl) (fun _ => by as_aux_lemma => kernel_rfl) (by as_aux_lemma => kernel_rfl) ⟨i0, hf0⟩ ?_
        clear hf0
        change wpQuiet _ _ _ _ [_, _] _
        repeat (go_big_quiet_step (fail))
        refine wpQuiet_nil ?_
        intro _ hw'
        obtain ⟨nE, hw''⟩ := hw'
        subst hw''
        clear x0 x1 x2 x3 x4 x5 x6 x7 x8 x9 x10 x11 x12 x13 x14 x15 y0 y1 y2 y3 y4 y5 y6 y7 y8 y9 y10 y11 y12 y13 y14 y15
        have HG0 := Lib.hid (HFn.out nE)
        clear HFn
        by_cases c1 : qa.1 = 0
        · as_aux_lemma =>
            have n1 : (((qa.1 : Nat) : Int) == 0) = true := by rw [c1]; rfl
            refine at_one 2 _ rfl (by as_aux_lemma => kernel_rfl) (by as_aux_lemma => kernel_rfl) ?_
            intro K hK
            go_wp2_with fail
            refine (H1.out _ _ _ _ _ _ _ _ _ _ _ _ HG0.out).mono ?_
            rintro e w8 ⟨rfl, F8, hp, hk⟩
            have HG1 := Lib.hid (HG0.out.put1 hk hp)
            clear hp hk
            go_wp2_with fail
            obtain ⟨Ix, f, i0, hf0, hCn, hstep⟩ := class_ofE w8
            haveI : Nonempty Ix := ⟨i0⟩
            have HFn := Lib.hid fun n => HG1.out.next (hCn n)
            have hS := fun n => HS6.out _ (HFn.out n).bel
            have x0 := fun n => (hS n).1
            have x1 := fun n => (hS n).2.1
            have x2 := fun n => (hS n).2.2.1
            have x3 := fun n => (hS n).2.2.2.1
            have x4 := fun n => (hS n).2.2.2.2.1
            have x5 := fun n => (hS n).2.2.2.2.2.1
            have x6 := fun n => (hS n).2.2.2.2.2.2.1
            have x7 := fun n => (hS n).2.2.2.2.2.2.2.1
            have x8 := fun n => (hS n).2.2.2.2.2.2.2.2.1
            have x9 := fun n => (hS n).2.2.2.2.2.2.2.2.2.1
            have x10 := fun n => (hS n).2.2.2.2.2.2.2.2.2.2.1
            have x11 := fun n => (hS n).2.2.2.2.2.2.2.2.2.2.2.1
            have x12 := fun n => (hS n).2.2.2.2.2.2.2.2.2.2.2.2.1
            have x13 := fun n => (hS n).2.2.2.2.2.2.2.2.2.2.2.2.2.1
            have x14 := fun n => (hS n).2.2.2.2.2.2.2.2.2.2.2.2.2.2.1
            have x15 := fun n => (hS n).2.2.2.2.2.2.2.2.2.2.2.2.2.2.2.1
            have y0 := fun n => (hS n).2.2.2.2.2.2.2.2.2.2.2.2.2.2.2.2.1
            have y1 := fun n => (hS n).2.2.2.2.2.2.2.2.2.2.2.2.2.2.2.2.2.1
            have y2 := fun n => (hS n).2.2.2.2.2.2.2.2.2.2.2.2.2.2.2.2.2.2.1
            have y3 := fun n => (hS n).2.2.2.2.2.2.2.2.2.2.2.2.2.2.2.2.2.2.2.1
            have y4 := fun n => (hS n).2.2.2.2.2.2.2.2.2.2.2.2.2.2.2.2.2.2.2.2.1
            have y5 := fun n => (hS n).2.2.2.2.2.2.2.2.2.2.2.2.2.2.2.2.2.2.2.2.2.1
            have y6 := fun n => (hS n).2.2.2.2.2.2.2.2.2.2.2.2.2.2.2.2.2.2.2.2.2.2.1
            have y7 := fun n => (hS n).2.2.2.2.2.2.2.2.2.2.2.2.2.2.2.2.2.2.2.2.2.2.2.1
            have y8 := fun n => (hS n).2.2.2.2.2.2.2.2.2.2.2.2.2.2.2.2.2.2.2.2.2.2.2.2.1
            have y9 := fun n => (hS n).2.2.2.2.2.2.2.2.2.2.2.2.2.2.2.2.2.2.2.2.2.2.2.2.2.1
            have y10 := fun n => (hS n).2.2.2.2.2.2.2.2.2.2.2.2.2.2.2.2.2.2.2.2.2.2.2.2.2.2.1
            have y11 := fun n => (hS n).2.2.2.2.2.2.2.2.2.2.2.2.2.2.2.2.2.2.2.2.2.2.2.2.2.2.2.1
            have y12 := fun n => (hS n).2.2.2.2.2.2.2.2.2.2.2.2.2.2.2.2.2.2.2.2.2.2.2.2.2.2.2.2.1
            have y13 := fun n => (hS n).2.2.2.2.2.2.2.2.2.2.2.2.2.2.2.2.2.2.2.2.2.2.2.2.2.2.2.2.2.1
            have y14 := fun n => (hS n).2.2.2.2.2.2.2.2.2.2.2.2.2.2.2.2.2.2.2.2.2.2.2.2.2.2.2.2.2.2.1
            have y15 := fun n => (hS n).2.2.2.2.2.2.2.2.2.2.2.2.2.2.2.2.2.2.2.2.2.2.2.2.2.2.2.2.2.2.2
            clear hS
            clear hCn hstep
            refine at_seg (fun w' => ∃ n, w' = f n) 3 7 _ rfl (by decide) (by decide) (by as_aux_lemma => kernel_rfl) (by as_aux_lemma => kernel_rfl) (fun _ => by as_aux_lemma => kernel_rfl) (by as_aux_lemma => kernel_rfl) ⟨i0, hf0⟩ ?_
            clear hf0
            change wpQuiet _ _ _ _ [_, _, _, _] _
            repeat (go_big_quiet_step (fail))
            refine wpQuiet_nil ?_
            intro _ hw'
            obtain ⟨nE, hw''⟩ := hw'
            subst hw''
            clear x0 x1 x2 x3 x4 x5 x6 x7 x8 x9 x10 x11 x12 x13 x14 x15 y0 y1 y2 y3 y4 y5 y6 y7 y8 y9 y10 y11 y12 y13 y14 y15
            have HG2 := Lib.hid (HFn.out nE)
            clear HFn
            by_cases c2 : qb.1 = 0
            · as_aux_lemma =>
                have n2 : (((qb.1 : Nat) : Int) == 0) = true := by rw [c2]; rfl
                refine at_one 7 _ rfl (by as_aux_lemma => kernel_rfl) (by as_aux_lemma => kernel_rfl) ?_
                intro K hK
                go_wp2_with fail
                refine (H2.out _ _ _ _ _ _ _ _ _ _ _ _ HG2.out).mono ?_
                rintro e w9 ⟨rfl, F9, hp, hk⟩
                have HG3 := Lib.hid (HG2.out.put2 hk hp)
                clear hp hk
                go_wp2_with fail
                obtain ⟨X, hX⟩ : ∃ X : ByteArray, X = ⟨qa.2.l.toArray⟩ := ⟨_, rfl⟩
                obtain ⟨Y, hY⟩ : ∃ Y : ByteArray, Y = ⟨qb.2.l.toArray⟩ := ⟨_, rfl⟩
                have hxy : X = Y ↔ sm = true := by
                  rw [← HUr.out c1 c2, hX, hY]
                  constructor
                  · intro h
                    have := congrArg bs h
                    rwa [bs_mk, bs_mk] at this
                  · intro h
                    rw [h]
                have HX := Lib.hid hX
                have HY := Lib.hid hY
                clear hX hY
                clear c1 c2
                cases sm
                · as_aux_lemma =>
                    have hne : X ≠ Y := fun h => by have := hxy.1 h; cases this
                    have hne2 : (X.toList == Y.toList) = false := beq_eq_false_iff_ne.2 (fun e => hne (bs_inj (by rw [← bs_toList, ← bs_toList]; exact e)))
                    clear hxy hne
                    obtain ⟨Ix, f, i0, hf0, hCn, hstep⟩ := class_ofE w9
                    haveI : Nonempty Ix := ⟨i0⟩
                    have HFn := Lib.hid fun n => HG3.out.next (hCn n)
                    have hS := fun n => HS6.out _ (HFn.out n).bel
                    have x0 := fun n => (hS n).1
                    have x1 := fun n => (hS n).2.1
                    have x2 := fun n => (hS n).2.2.1
                    have x3 := fun n => (hS n).2.2.2.1
                    have x4 := fun n => (hS n).2.2.2.2.1
                    have x5 := fun n => (hS n).2.2.2.2.2.1
                    have x6 := fun n => (hS n).2.2.2.2.2.2.1
                    have x7 := fun n => (hS n).2.2.2.2.2.2.2.1
                    have x8 := fun n => (hS n).2.2.2.2.2.2.2.2.1
                    have x9 := fun n => (hS n).2.2.2.2.2.2.2.2.2.1
                    have x10 := fun n => (hS n).2.2.2.2.2.2.2.2.2.2.1
                    have x11 := fun n => (hS n).2.2.2.2.2.2.2.2.2.2.2.1
                    have x12 := fun n => (hS n).2.2.2.2.2.2.2.2.2.2.2.2.1
                    have x13 := fun n => (hS n).2.2.2.2.2.2.2.2.2.2.2.2.2.1
                    have x14 := fun n => (hS n).2.2.2.2.2.2.2.2.2.2.2.2.2.2.1
                    have x15 := fun n => (hS n).2.2.2.2.2.2.2.2.2.2.2.2.2.2.2.1
                    have y0 := fun n => (hS n).2.2.2.2.2.2.2.2.2.2.2.2.2.2.2.2.1
                    have y1 := fun n => (hS n).2.2.2.2.2.2.2.2.2.2.2.2.2.2.2.2.2.1
                    have y2 := fun n => (hS n).2.2.2.2.2.2.2.2.2.2.2.2.2.2.2.2.2.2.1
                    have y3 := fun n => (hS n).2.2.2.2.2.2.2.2.2.2.2.2.2.2.2.2.2.2.2.1
                    have y4 := fun n => (hS n).2.2.2.2.2.2.2.2.2.2.2.2.2.2.2.2.2.2.2.2.1
                    have y5 := fun n => (hS n).2.2.2.2.2.2.2.2.2.2.2.2.2.2.2.2.2.2.2.2.2.1
                    have y6 := fun n => (hS n).2.2.2.2.2.2.2.2.2.2.2.2.2.2.2.2.2.2.2.2.2.2.1
                    have y7 := fun n => (hS n).2.2.2.2.2.2.2.2.2.2.2.2.2.2.2.2.2.2.2.2.2.2.2.1
                    have y8 := fun n => (hS n).2.2.2.2.2.2.2.2.2.2.2.2.2.2.2.2.2.2.2.2.2.2.2.2.1
                    have y9 := fun n => (hS n).2.2.2.2.2.2.2.2.2.2.2.2.2.2.2.2.2.2.2.2.2.2.2.2.2.1
                    have y10 := fun n => (hS n).2.2.2.2.2.2.2.2.2.2.2.2.2.2.2.2.2.2.2.2.2.2.2.2.2.2.1
                    have y11 := fun n => (hS n).2.2.2.2.2.2.2.2.2.2.2.2.2.2.2.2.2.2.2.2.2.2.2.2.2.2.2.1
                    have y12 := fun n => (hS n).2.2.2.2.2.2.2.2.2.2.2.2.2.2.2.2.2.2.2.2.2.2.2.2.2.2.2.2.1
                    have y13 := fun n => (hS n).2.2.2.2.2.2.2.2.2.2.2.2.2.2.2.2.2.2.2.2.2.2.2.2.2.2.2.2.2.1
                    have y14 := fun n => (hS n).2.2.2.2.2.2.2.2.2.2.2.2.2.2.2.2.2.2.2.2.2.2.2.2.2.2.2.2.2.2.1
                    have y15 := fun n => (hS n).2.2.2.2.2.2.2.2.2.2.2.2.2.2.2.2.2.2.2.2.2.2.2.2.2.2.2.2.2.2.2
                    clear hS
                    have V0 := (show Hid (∀ n, Calls Tryz.prog 19 #[pp g1] (f n) fun e w'' => e = .returned (.string X) ∧ ∃ m, w'' = f m) from Lib.hid fun n => (pText_any (HFn.out n).p1).mono fun _ _ h => ⟨by rw [HX.out]; exact h.1, n, h.2.symm⟩)
                    have V1 := (show Hid (∀ n, Calls Tryz.prog 19 #[pp g2] (f n) fun e w'' => e = .returned (.string Y) ∧ ∃ m, w'' = f m) from Lib.hid fun n => (pText_any (HFn.out n).p2).mono fun _ _ h => ⟨by rw [HY.out]; exact h.1, n, h.2.symm⟩)
                    have V2 := (Lib.hid (fun n => (HSm.out (f n) (HFn.out n).bel).mono (fun _ _ h => (⟨h.1, hstep n _ h.2⟩ : _ ∧ ∃ m, _ = f m))))
                    clear hCn hstep
                    refine at_seg (fun w' => ∃ n, w' = f n) 8 21 _ rfl (by decide) (by decide) (by as_aux_lemma => kernel_rfl) (by as_aux_lemma => kernel_rfl) (fun h => absurd h (by decide)) (by as_aux_lemma => kernel_rfl) ⟨i0, hf0⟩ ?_
                    clear hf0
                    change wpQuiet _ _ _ _ [_, _, _, _, _, _, _, _, _, _, _, _, _] _
                    repeat (go_big_quiet_step (first | (with_reducible exact V0.out _) | (with_reducible exact V1.out _) | (with_reducible exact V2.out _)))
                    refine wpQuiet_nil ?_
                    intro _ hw'
                    obtain ⟨nE, hw''⟩ := hw'
                    subst hw''
                    clear x0 x1 x2 x3 x4 x5 x6 x7 x8 x9 x10 x11 x12 x13 x14 x15 y0 y1 y2 y3 y4 y5 y6 y7 y8 y9 y10 y11 y12 y13 y14 y15 V0 V1 V2
                    have HG4 := Lib.hid (HFn.out nE)
                    clear HFn
                    refine at_end ?_
                    go_wp2_with fail
                    go_meet
                    case rel => exact ⟨rfl, _, _, _, _, HG4.out⟩
                · as_aux_lemma =>
                    have heq := hxy.2 rfl
                    subst heq
                    clear hxy
                    obtain ⟨Ix, f, i0, hf0, hCn, hstep⟩ := class_ofE w9
                    haveI : Nonempty Ix := ⟨i0⟩
                    have HFn := Lib.hid fun n => HG3.out.next (hCn n)
                    have hS := fun n => HS6.out _ (HFn.out n).bel
                    have x0 := fun n => (hS n).1
                    have x1 := fun n => (hS n).2.1
                    have x2 := fun n => (hS n).2.2.1
                    have x3 := fun n => (hS n).2.2.2.1
                    have x4 := fun n => (hS n).2.2.2.2.1
                    have x5 := fun n => (hS n).2.2.2.2.2.1
                    have x6 := fun n => (hS n).2.2.2.2.2.2.1
                    have x7 := fun n => (hS n).2.2.2.2.2.2.2.1
                    have x8 := fun n => (hS n).2.2.2.2.2.2.2.2.1
                    have x9 := fun n => (hS n).2.2.2.2.2.2.2.2.2.1
                    have x10 := fun n => (hS n).2.2.2.2.2.2.2.2.2.2.1
                    have x11 := fun n => (hS n).2.2.2.2.2.2.2.2.2.2.2.1
                    have x12 := fun n => (hS n).2.2.2.2.2.2.2.2.2.2.2.2.1
                    have x13 := fun n => (hS n).2.2.2.2.2.2.2.2.2.2.2.2.2.1
                    have x14 := fun n => (hS n).2.2.2.2.2.2.2.2.2.2.2.2.2.2.1
                    have x15 := fun n => (hS n).2.2.2.2.2.2.2.2.2.2.2.2.2.2.2.1
                    have y0 := fun n => (hS n).2.2.2.2.2.2.2.2.2.2.2.2.2.2.2.2.1
                    have y1 := fun n => (hS n).2.2.2.2.2.2.2.2.2.2.2.2.2.2.2.2.2.1
                    have y2 := fun n => (hS n).2.2.2.2.2.2.2.2.2.2.2.2.2.2.2.2.2.2.1
                    have y3 := fun n => (hS n).2.2.2.2.2.2.2.2.2.2.2.2.2.2.2.2.2.2.2.1
                    have y4 := fun n => (hS n).2.2.2.2.2.2.2.2.2.2.2.2.2.2.2.2.2.2.2.2.1
                    have y5 := fun n => (hS n).2.2.2.2.2.2.2.2.2.2.2.2.2.2.2.2.2.2.2.2.2.1
                    have y6 := fun n => (hS n).2.2.2.2.2.2.2.2.2.2.2.2.2.2.2.2.2.2.2.2.2.2.1
                    have y7 := fun n => (hS n).2.2.2.2.2.2.2.2.2.2.2.2.2.2.2.2.2.2.2.2.2.2.2.1
                    have y8 := fun n => (hS n).2.2.2.2.2.2.2.2.2.2.2.2.2.2.2.2.2.2.2.2.2.2.2.2.1
                    have y9 := fun n => (hS n).2.2.2.2.2.2.2.2.2.2.2.2.2.2.2.2.2.2.2.2.2.2.2.2.2.1
                    have y10 := fun n => (hS n).2.2.2.2.2.2.2.2.2.2.2.2.2.2.2.2.2.2.2.2.2.2.2.2.2.2.1
                    have y11 := fun n => (hS n).2.2.2.2.2.2.2.2.2.2.2.2.2.2.2.2.2.2.2.2.2.2.2.2.2.2.2.1
                    have y12 := fun n => (hS n).2.2.2.2.2.2.2.2.2.2.2.2.2.2.2.2.2.2.2.2.2.2.2.2.2.2.2.2.1
                    have y13 := fun n => (hS n).2.2.2.2.2.2.2.2.2.2.2.2.2.2.2.2.2.2.2.2.2.2.2.2.2.2.2.2.2.1
                    have y14 := fun n => (hS n).2.2.2.2.2.2.2.2.2.2.2.2.2.2.2.2.2.2.2.2.2.2.2.2.2.2.2.2.2.2.1
                    have y15 := fun n => (hS n).2.2.2.2.2.2.2.2.2.2.2.2.2.2.2.2.2.2.2.2.2.2.2.2.2.2.2.2.2.2.2
                    clear hS
                    have V0 := (show Hid (∀ n, Calls Tryz.prog 19 #[pp g1] (f n) fun e w'' => e = .returned (.string X) ∧ ∃ m, w'' = f m) from Lib.hid fun n => (pText_any (HFn.out n).p1).mono fun _ _ h => ⟨by rw [HX.out]; exact h.1, n, h.2.symm⟩)
                    have V1 := (show Hid (∀ n, Calls Tryz.prog 19 #[pp g2] (f n) fun e w'' => e = .returned (.string X) ∧ ∃ m, w'' = f m) from Lib.hid fun n => (pText_any (HFn.out n).p2).mono fun _ _ h => ⟨by rw [HY.out]; exact h.1, n, h.2.symm⟩)
                    have V2 := (Lib.hid (fun n => (HSm.out (f n) (HFn.out n).bel).mono (fun _ _ h => (⟨h.1, hstep n _ h.2⟩ : _ ∧ ∃ m, _ = f m))))
                    clear hCn hstep
                    refine at_seg (fun w' => ∃ n, w' = f n) 8 21 _ rfl (by decide) (by decide) (by as_aux_lemma => kernel_rfl) (by as_aux_lemma => kernel_rfl) (fun h => absurd h (by decide)) (by as_aux_lemma => kernel_rfl) ⟨i0, hf0⟩ ?_
                    clear hf0
                    change wpQuiet _ _ _ _ [_, _, _, _, _, _, _, _, _, _, _, _, _] _
                    repeat (go_big_quiet_step (first | (with_reducible exact V0.out _) | (with_reducible exact V1.out _) | (with_reducible exact V2.out _)))
                    refine wpQuiet_nil ?_
                    intro _ hw'
                    obtain ⟨nE, hw''⟩ := hw'
                    subst hw''
                    clear x0 x1 x2 x3 x4 x5 x6 x7 x8 x9 x10 x11 x12 x13 x14 x15 y0 y1 y2 y3 y4 y5 y6 y7 y8 y9 y10 y11 y12 y13 y14 y15 V0 V1 V2
                    have HG4 := Lib.hid (HFn.out nE)
                    clear HFn
                    refine at_end ?_
                    go_wp2_with fail
                    go_meet
                    case rel => exact ⟨rfl, _, _, _, _, HG4.out⟩
            · as_aux_lemma =>
                have n2 : (((qb.1 : Nat) : Int) == 0) = false := by rw [beq_eq_false_iff_ne]; omega
                clear c1 c2
                refine at_one 7 _ rfl (by as_aux_lemma => kernel_rfl) (by as_aux_lemma => kernel_rfl) ?_
                intro K hK
                go_wp2_with fail
                refine (H2.out _ _ _ _ _ _ _ _ _ _ _ _ HG2.out).mono ?_
                rintro e w9 ⟨rfl, F9, hp, hk⟩
                have HG3 := Lib.hid (HG2.out.put2 hk hp)
                clear hp hk
                go_wp2_with fail
                obtain ⟨Ix, f, i0, hf0, hCn, hstep⟩ := class_ofE w9
                haveI : Nonempty Ix := ⟨i0⟩
                have HFn := Lib.hid fun n => HG3.out.next (hCn n)
                clear hCn hstep
                refine at_seg (fun w' => ∃ n, w' = f n) 8 21 _ rfl (by decide) (by decide) (by as_aux_lemma => kernel_rfl) (by as_aux_lemma => kernel_rfl) (fun h => absurd h (by decide)) (by as_aux_lemma => kernel_rfl) ⟨i0, hf0⟩ ?_
                clear hf0
                change wpQuiet _ _ _ _ [_, _, _, _, _, _, _, _, _, _, _, _, _] _
                repeat (go_big_quiet_step (fail))
                refine wpQuiet_nil ?_
                intro _ hw'
                obtain ⟨nE, hw''⟩ := hw'
                subst hw''
                have HG4 := Lib.hid (HFn.out nE)
                clear HFn
                refine at_end ?_
                go_wp2_with fail
                go_meet
                case rel => exact ⟨rfl, _, _, _, _, HG4.out⟩
        · as_aux_lemma =>
            have n1 : (((qa.1 : Nat) : Int) == 0) = false := by rw [beq_eq_false_iff_ne]; omega
            clear c1
            refine at_one 2 _ rfl (by as_aux_lemma => kernel_rfl) (by as_aux_lemma => kernel_rfl) ?_
            intro K hK
            go_wp2_with fail
            refine (H1.out _ _ _ _ _ _ _ _ _ _ _ _ HG0.out).mono ?_
            rintro e w8 ⟨rfl, F8, hp, hk⟩
            have HG1 := Lib.hid (HG0.out.put1 hk hp)
            clear hp hk
            go_wp2_with fail
            obtain ⟨Ix, f, i0, hf0, hCn, hstep⟩ := class_ofE w8
            haveI : Nonempty Ix := ⟨i0⟩
            have HFn := Lib.hid fun n => HG1.out.next (hCn n)
            clear hCn hstep
            refine at_seg (fun w' => ∃ n, w' = f n) 3 21 _ rfl (by decide) (by decide) (by as_aux_lemma => kernel_rfl) (by as_aux_lemma => kernel_rfl) (fun h => absurd h (by decide)) (by as_aux_lemma => kernel_rfl) ⟨i0, hf0⟩ ?_
            clear hf0
            change wpQuiet _ _ _ _ [_, _, _, _, _, _, _, _, _, _, _, _, _, _, _, _, _, _] _
            repeat (go_big_quiet_step (fail))
            refine wpQuiet_nil ?_
            intro _ hw'
            obtain ⟨nE, hw''⟩ := hw'
            subst hw''
            have HG4 := Lib.hid (HFn.out nE)
            clear HFn
            refine at_end ?_
            go_wp2_with fail
            go_meet
            case rel => exact ⟨rfl, _, _, _, _, HG4.out⟩
      case rest => as_aux_lemma =>
        clear HF H1 H2 HSm HUr HS6
        obtain ⟨rfl, F1', F2', s1', s2', hF⟩ := hcut
        have HF := Lib.hid hF
        clear hF
        go_wp2_with fail
        refine region_at (by as_aux_lemma => kernel_rfl) ?_
        obtain ⟨Ix, f, i0, hf0, hCn, hstep⟩ := class_ofC wc
        haveI : Nonempty Ix := ⟨i0⟩
        have HFn := Lib.hid fun n => HF.out.next (hCn n)
        have hS := fun n => HS8.out _ (HFn.out n).bel
        have z0 := fun n => (hS n).1
        have z1 := fun n => (hS n).2.1
        have z2 := fun n => (hS n).2.2.1
        have z3 := fun n => (hS n).2.2.2.1
        have z4 := fun n => (hS n).2.2.2.2.1
        have z5 := fun n => (hS n).2.2.2.2.2
        clear hS
        clear hCn hstep
        refine at_seg (fun w' => ∃ n, w' = f n) 0 2 _ rfl (by decide) (by decide) (by as_aux_lemma => kernel_rfl) (by as_aux_lemma => kernel_rfl) (fun _ => by as_aux_lemma => kernel_rfl) (by as_aux_lemma => kernel_rfl) ⟨i0, hf0⟩ ?_
        clear hf0
        change wpQuiet _ _ _ _ [_, _] _
        repeat (go_big_quiet_step (fail))
        refine wpQuiet_nil ?_
        intro _ hw'
        obtain ⟨nE, hw''⟩ := hw'
        subst hw''
        clear z0 z1 z2 z3 z4 z5
        have HG0 := Lib.hid (HFn.out nE)
        clear HFn
        by_cases c1 : qq.1 = 0
        · as_aux_lemma =>
            have n1 : (((qq.1 : Nat) : Int) != 0) = false := by rw [c1]; rfl
            refine at_one 2 _ rfl (by as_aux_lemma => kernel_rfl) (by as_aux_lemma => kernel_rfl) ?_
            intro K hK
            go_wp2_with fail
            refine (H3.out _ _ _ _ _ _ _ _ _ _ _ _ HG0.out).mono ?_
            rintro e w8 ⟨rfl, F8, hp, hk⟩
            have HG1 := Lib.hid (HG0.out.put3 hk hp)
            clear hp hk
            go_wp2_with fail
            obtain ⟨Ix, f, i0, hf0, hCn, hstep⟩ := class_ofE w8
            haveI : Nonempty Ix := ⟨i0⟩
            have HFn := Lib.hid fun n => HG1.out.next (hCn n)
            have hS := fun n => HS8.out _ (HFn.out n).bel
            have z0 := fun n => (hS n).1
            have z1 := fun n => (hS n).2.1
            have z2 := fun n => (hS n).2.2.1
            have z3 := fun n => (hS n).2.2.2.1
            have z4 := fun n => (hS n).2.2.2.2.1
            have z5 := fun n => (hS n).2.2.2.2.2
            clear hS
            clear hCn hstep
            refine at_seg (fun w' => ∃ n, w' = f n) 3 7 _ rfl (by decide) (by decide) (by as_aux_lemma => kernel_rfl) (by as_aux_lemma => kernel_rfl) (fun _ => by as_aux_lemma => kernel_rfl) (by as_aux_lemma => kernel_rfl) ⟨i0, hf0⟩ ?_
            clear hf0
            change wpQuiet _ _ _ _ [_, _, _, _] _
            repeat (go_big_quiet_step (fail))
            refine wpQuiet_nil ?_
            intro _ hw'
            obtain ⟨nE, hw''⟩ := hw'
            subst hw''
            clear z0 z1 z2 z3 z4 z5
            have HG2 := Lib.hid (HFn.out nE)
            clear HFn
            by_cases c2 : qr.1 = 0
            · as_aux_lemma =>
                have n2 : (((qr.1 : Nat) : Int) != 0) = false := by rw [c2]; rfl
                refine at_one 7 _ rfl (by as_aux_lemma => kernel_rfl) (by as_aux_lemma => kernel_rfl) ?_
                intro K hK
                go_wp2_with fail
                refine (H4.out _ _ _ _ _ _ _ _ _ _ _ _ HG2.out).mono ?_
                rintro e w9 ⟨rfl, F9, hp, hk⟩
                have HG3 := Lib.hid (HG2.out.put4 hk hp)
                clear hp hk
                go_wp2_with fail
                obtain ⟨X, hX⟩ : ∃ X : ByteArray, X = ⟨qq.2.l.toArray⟩ := ⟨_, rfl⟩
                obtain ⟨Y, hY⟩ : ∃ Y : ByteArray, Y = ⟨qr.2.l.toArray⟩ := ⟨_, rfl⟩
                have hxy : X = Y ↔ sq = true := by
                  rw [← HUq.out c1 c2, hX, hY]
                  constructor
                  · intro h
                    have := congrArg bs h
                    rwa [bs_mk, bs_mk] at this
                  · intro h
                    rw [h]
                have HX := Lib.hid hX
                have HY := Lib.hid hY
                clear hX hY
                clear c1 c2
                cases sq
                · as_aux_lemma =>
                    have hne : X ≠ Y := fun h => by have := hxy.1 h; cases this
                    have hne2 : (X.toList == Y.toList) = false := beq_eq_false_iff_ne.2 (fun e => hne (bs_inj (by rw [← bs_toList, ← bs_toList]; exact e)))
                    clear hxy hne
                    obtain ⟨Ix, f, i0, hf0, hCn, hstep⟩ := class_ofE w9
                    haveI : Nonempty Ix := ⟨i0⟩
                    have HFn := Lib.hid fun n => HG3.out.next (hCn n)
                    have hS := fun n => HS8.out _ (HFn.out n).bel
                    have z0 := fun n => (hS n).1
                    have z1 := fun n => (hS n).2.1
                    have z2 := fun n => (hS n).2.2.1
                    have z3 := fun n => (hS n).2.2.2.1
                    have z4 := fun n => (hS n).2.2.2.2.1
                    have z5 := fun n => (hS n).2.2.2.2.2
                    clear hS
                    have V0 := (show Hid (∀ n, Calls Tryz.prog 19 #[pp g3] (f n) fun e w'' => e = .returned (.string X) ∧ ∃ m, w'' = f m) from Lib.hid fun n => (pText_any (HFn.out n).p3).mono fun _ _ h => ⟨by rw [HX.out]; exact h.1, n, h.2.symm⟩)
                    have V1 := (show Hid (∀ n, Calls Tryz.prog 19 #[pp g4] (f n) fun e w'' => e = .returned (.string Y) ∧ ∃ m, w'' = f m) from Lib.hid fun n => (pText_any (HFn.out n).p4).mono fun _ _ h => ⟨by rw [HY.out]; exact h.1, n, h.2.symm⟩)
                    have V2 := (Lib.hid (fun n => (HSq.out (f n)).mono (fun _ _ h => (⟨h.1, hstep n _ h.2⟩ : _ ∧ ∃ m, _ = f m))))
                    clear hCn hstep
                    refine at_seg (fun w' => ∃ n, w' = f n) 8 22 _ rfl (by decide) (by decide) (by as_aux_lemma => kernel_rfl) (by as_aux_lemma => kernel_rfl) (fun h => absurd h (by decide)) (by as_aux_lemma => kernel_rfl) ⟨i0, hf0⟩ ?_
                    clear hf0
                    change wpQuiet _ _ _ _ [_, _, _, _, _, _, _, _, _, _, _, _, _, _] _
                    repeat (go_big_quiet_step (first | (with_reducible exact V0.out _) | (with_reducible exact V1.out _) | (with_reducible exact V2.out _)))
                    refine wpQuiet_nil ?_
                    intro _ hw'
                    obtain ⟨nE, hw''⟩ := hw'
                    subst hw''
                    clear z0 z1 z2 z3 z4 z5 V0 V1 V2
                    have HG4 := Lib.hid (HFn.out nE)
                    clear HFn
                    refine at_end ?_
                    go_wp2
                    go_ret
                    exact ⟨rfl, HBw.out _ HG4.out.bel⟩
                · as_aux_lemma =>
                    have heq := hxy.2 rfl
                    subst heq
                    clear hxy
                    obtain ⟨Ix, f, i0, hf0, hCn, hstep⟩ := class_ofE w9
                    haveI : Nonempty Ix := ⟨i0⟩
                    have HFn := Lib.hid fun n => HG3.out.next (hCn n)
                    have hS := fun n => HS8.out _ (HFn.out n).bel
                    have z0 := fun n => (hS n).1
                    have z1 := fun n => (hS n).2.1
                    have z2 := fun n => (hS n).2.2.1
                    have z3 := fun n => (hS n).2.2.2.1
                    have z4 := fun n => (hS n).2.2.2.2.1
                    have z5 := fun n => (hS n).2.2.2.2.2
                    clear hS
                    have V0 := (show Hid (∀ n, Calls Tryz.prog 19 #[pp g3] (f n) fun e w'' => e = .returned (.string X) ∧ ∃ m, w'' = f m) from Lib.hid fun n => (pText_any (HFn.out n).p3).mono fun _ _ h => ⟨by rw [HX.out]; exact h.1, n, h.2.symm⟩)
                    have V1 := (show Hid (∀ n, Calls Tryz.prog 19 #[pp g4] (f n) fun e w'' => e = .returned (.string X) ∧ ∃ m, w'' = f m) from Lib.hid fun n => (pText_any (HFn.out n).p4).mono fun _ _ h => ⟨by rw [HY.out]; exact h.1, n, h.2.symm⟩)
                    have V2 := (Lib.hid (fun n => (HSq.out (f n)).mono (fun _ _ h => (⟨h.1, hstep n _ h.2⟩ : _ ∧ ∃ m, _ = f m))))
                    clear hCn hstep
                    refine at_seg (fun w' => ∃ n, w' = f n) 8 22 _ rfl (by decide) (by decide) (by as_aux_lemma => kernel_rfl) (by as_aux_lemma => kernel_rfl) (fun h => absurd h (by decide)) (by as_aux_lemma => kernel_rfl) ⟨i0, hf0⟩ ?_
                    clear hf0
                    change wpQuiet _ _ _ _ [_, _, _, _, _, _, _, _, _, _, _, _, _, _] _
                    repeat (go_big_quiet_step (first | (with_reducible exact V0.out _) | (with_reducible exact V1.out _) | (with_reducible exact V2.out _)))
                    refine wpQuiet_nil ?_
                    intro _ hw'
                    obtain ⟨nE, hw''⟩ := hw'
                    subst hw''
                    clear z0 z1 z2 z3 z4 z5 V0 V1 V2
                    have HG4 := Lib.hid (HFn.out nE)
                    clear HFn
                    refine at_end ?_
                    go_wp2
                    go_ret
                    exact ⟨rfl, HBw.out _ HG4.out.bel⟩
            · as_aux_lemma =>
                have n2 : (((qr.1 : Nat) : Int) != 0) = true := by rw [bne_iff_ne]; omega
                clear c1 c2
                refine at_one 7 _ rfl (by as_aux_lemma => kernel_rfl) (by as_aux_lemma => kernel_rfl) ?_
                intro K hK
                go_wp2_with fail
                refine (H4.out _ _ _ _ _ _ _ _ _ _ _ _ HG2.out).mono ?_
                rintro e w9 ⟨rfl, F9, hp, hk⟩
                have HG3 := Lib.hid (HG2.out.put4 hk hp)
                clear hp hk
                go_wp2_with fail
                obtain ⟨Ix, f, i0, hf0, hCn, hstep⟩ := class_ofE w9
                haveI : Nonempty Ix := ⟨i0⟩
                have HFn := Lib.hid fun n => HG3.out.next (hCn n)
                clear hCn hstep
                refine at_seg (fun w' => ∃ n, w' = f n) 8 22 _ rfl (by decide) (by decide) (by as_aux_lemma => kernel_rfl) (by as_aux_lemma => kernel_rfl) (fun h => absurd h (by decide)) (by as_aux_lemma => kernel_rfl) ⟨i0, hf0⟩ ?_
                clear hf0
                change wpQuiet _ _ _ _ [_, _, _, _, _, _, _, _, _, _, _, _, _, _] _
                repeat (go_big_quiet_step (fail))
                refine wpQuiet_nil ?_
                intro _ hw'
                obtain ⟨nE, hw''⟩ := hw'
                subst hw''
                have HG4 := Lib.hid (HFn.out nE)
                clear HFn
                refine at_end ?_
                go_wp2
                go_ret
                exact ⟨rfl, HBw.out _ HG4.out.bel⟩
        · as_aux_lemma =>
            have n1 : (((qq.1 : Nat) : Int) != 0) = true := by rw [bne_iff_ne]; omega
            clear c1
            refine at_one 2 _ rfl (by as_aux_lemma => kernel_rfl) (by as_aux_lemma => kernel_rfl) ?_
            intro K hK
            go_wp2_with fail
            refine (H3.out _ _ _ _ _ _ _ _ _ _ _ _ HG0.out).mono ?_
            rintro e w8 ⟨rfl, F8, hp, hk⟩
            have HG1 := Lib.hid (HG0.out.put3 hk hp)
            clear hp hk
            go_wp2_with fail
            obtain ⟨Ix, f, i0, hf0, hCn, hstep⟩ := class_ofE w8
            haveI : Nonempty Ix := ⟨i0⟩
            have HFn := Lib.hid fun n => HG1.out.next (hCn n)
            clear hCn hstep
            refine at_seg (fun w' => ∃ n, w' = f n) 3 22 _ rfl (by decide) (by decide) (by as_aux_lemma => kernel_rfl) (by as_aux_lemma => kernel_rfl) (fun h => absurd h (by decide)) (by as_aux_lemma => kernel_rfl) ⟨i0, hf0⟩ ?_
            clear hf0
            change wpQuiet _ _ _ _ [_, _, _, _, _, _, _, _, _, _, _, _, _, _, _, _, _, _, _] _
            repeat (go_big_quiet_step (fail))
            refine wpQuiet_nil ?_
            intro _ hw'
            obtain ⟨nE, hw''⟩ := hw'
            subst hw''
            have HG4 := Lib.hid (HFn.out nE)
            clear HFn
            refine at_end ?_
            go_wp2
            go_ret
            exact ⟨rfl, HBw.out _ HG4.out.bel⟩
theorem RecordUnlike_walk (a : MR) (ta : Value) (b : MR) (tb : Value) (q r : MQ) (w : World) (fa : FitR w a ta) (fb : FitR w b tb) (hqn : q.n.size ≤ maxLen) (hrn : r.n.size ≤ maxLen) :
    Calls Tryz.prog 6 #[recV a ta, recV b tb, questV q, questV r] w fun e w' => e = .returned (.bool true) ∧ Below w.heap.size w w' := by
  by_cases d1 : q.n.size ≤ 400
  · by_cases d2 : r.n.size ≤ 400
    · exact Unlike_short a ta b tb q r w fa fb hqn hrn d1 d2
    · exact Unlike_long2 a ta b tb q r w fa fb hqn hrn d1 d2
  · exact Unlike_long1 a ta b tb q r w fa fb hqn hrn d1
end Go.Proofs.YtbbglpjhblhkdaaGreat
