/-
  What was read of octets is read again where more octets stand behind: names, numbers, data, questions, records, rows, whole messages: plain mathematics. Conditions as each theorem names them.
-/
import Derived.Test.YtadeflehdfmilaaGreatZk44
import Derived.Test.YtadeflehdfmilaaGreatZk1
namespace Go.Proofs.YtadeflehdfmilaaGreat
open Go.RowKit
set_option linter.unusedVariables false
set_option maxRecDepth 10000

theorem partU_app {r : List UInt8} (X : List UInt8) (h : (partU r).2 = 0) : partU (r ++ X) = partU r := by
  rcases r with _ | ⟨c, t⟩
  · cases h
  · rw [List.cons_append, partU_cons, partU_cons] at *
    by_cases h1 : 192 ≤ c.toNat
    · rw [if_pos h1] at h ⊢
      rw [if_pos h1]
      by_cases h2 : t.length < 1
      · rw [if_pos h2] at h; cases h
      · rw [if_neg h2, if_neg (by rw [List.length_append]; omega)]
    · rw [if_neg h1] at h ⊢
      rw [if_neg h1]
      by_cases h3 : 63 < c.toNat
      · rw [if_pos h3] at h; cases h
      · rw [if_neg h3] at h ⊢
        rw [if_neg h3]
        by_cases h4 : t.length < c.toNat
        · rw [if_pos h4] at h; cases h
        · rw [if_neg h4, if_neg (by rw [List.length_append]; omega)]
theorem partU_at {x : List UInt8} (X : List UInt8) {p : Nat} (hp : p ≤ x.length) (h : (partU (x.drop p)).2 = 0) : partU ((x ++ X).drop p) = partU (x.drop p) := by
  rw [List.drop_append_of_le_length hp]
  exact partU_app X h
theorem overU_app {x : List UInt8} (X : List UInt8) {s : US} (hp : s.p ≤ x.length) (h : (partU (x.drop s.p)).2 = 0) : overU (x ++ X) s (partU (x.drop s.p)).1 = overU x s (partU (x.drop s.p)).1 := by
  obtain ⟨_, h2, _⟩ := partU_ok h
  unfold overU
  rw [List.drop_append_of_le_length hp, List.take_append_of_le_length h2]
theorem invU_app {x : List UInt8} (X : List UInt8) {s : US} (h : InvU x.length s) : InvU (x ++ X).length s := by
  have hl : x.length ≤ (x ++ X).length := by rw [List.length_append]; omega
  exact ⟨Nat.le_trans h.p hl, Nat.le_trans h.jr hl, h.l, Nat.le_trans h.e hl, h.t⟩
theorem runU_app (x X : List UInt8) : ∀ (k : Nat) (s : US), s.f = 0 → InvU x.length s → muU x s ≤ k → (runU x k s).f = 0 → ∀ k', muU (x ++ X) s ≤ k' → runU (x ++ X) k' s = runU x k s
  | 0, s, hf, hi, hm, hu, k', hk' => by
    rw [show muU x s = _ from if_neg (by omega)] at hm
    omega
  | k + 1, s, hf, hi, hm, hu, k', hk' => by
    obtain ⟨k', rfl⟩ : ∃ j, k' = j + 1 := by
      rw [show muU (x ++ X) s = _ from if_neg (by omega)] at hk'
      exact ⟨k' - 1, by omega⟩
    by_cases he : (partU (x.drop s.p)).2 = 0
    · have hpa := partU_at X hi.p he
      have hov := overU_app X hi.p he
      have he' : (partU ((x ++ X).drop s.p)).2 = 0 := by rw [hpa]; exact he
      have hov' : overU (x ++ X) s (partU ((x ++ X).drop s.p)).1 = overU x s (partU (x.drop s.p)).1 := by rw [hpa]; exact hov
      have hi2 := overU_inv hi he
      have hi' := invU_app X hi
      have m1 := mu_keep hi he hf hm
      have m2 := mu_follow hi he hf hm
      have n1 := mu_keep hi' he' hf hk'
      have n2 := mu_follow hi' he' hf hk'
      rw [hov'] at n1 n2
      by_cases ht : (overU x s (partU (x.drop s.p)).1).t = [0]
      · rw [runU_end hf he ht, runU_end hf he' (by rw [hov']; exact ht), hov']
      · cases hp : isPtr (overU x s (partU (x.drop s.p)).1).t
        · rw [runU_lab hf he ht hp] at hu ⊢
          rw [runU_lab hf he' (by rw [hov']; exact ht) (by rw [hov']; exact hp), hov']
          by_cases hk : (keepU (overU x s (partU (x.drop s.p)).1)).f = 0
          · exact runU_app x X k _ hk (keepU_inv hi2) m1 hu k' n1
          · rw [runU_stop hk] at hu
            exact absurd hu hk
        · rw [runU_ptr hf he ht hp] at hu ⊢
          rw [runU_ptr hf he' (by rw [hov']; exact ht) (by rw [hov']; exact hp), hov']
          by_cases hk : (followU (overU x s (partU (x.drop s.p)).1)).f = 0
          · exact runU_app x X k _ hk (followU_inv hi2) m2 hu k' n2
          · rw [runU_stop hk] at hu
            exact absurd hu hk
    · rw [runU_bad hf he] at hu
      exact absurd hu he
theorem readU_app {x : List UInt8} (X : List UInt8) {k : Nat} (ptd : Bool) (h : (readU x k (if ptd then k else 0)).f = 0) : readU (x ++ X) k (if ptd then k else 0) = readU x k (if ptd then k else 0) := by
  by_cases ha : (k : Int) < 0 ∨ (x.length : Int) < k
  · rw [show readU x k _ = _ from if_pos ha] at h
    simp [failU] at h
  · have hk : k ≤ x.length := by omega
    have ha' : ¬ ((k : Int) < 0 ∨ ((x ++ X).length : Int) < k) := by rw [List.length_append]; omega
    rw [show readU x k _ = _ from if_neg ha] at h ⊢
    rw [show readU (x ++ X) k _ = _ from if_neg ha']
    have hr : (if ptd then (k : Int) else 0).toNat ≤ x.length := by cases ptd <;> simp; omega
    exact runU_app x X _ _ rfl (begU_inv (by simpa using hk) hr) (Nat.le_refl _) h _ (Nat.le_refl _)
theorem readU_app' {x : List UInt8} (X : List UInt8) {k : Nat} (h : (readU x k k).f = 0) : readU (x ++ X) k k = readU x k k := readU_app X (ptd := true) h
theorem takR_app {T : List UInt8} (X : List UInt8) {k : Nat} {n : Int} (hk : k ≤ T.length) (h : (takR T k n).e = 0) : takR (T ++ X) k n = takR T k n := by
  have e : (T ++ X).take T.length = T := List.take_left' rfl
  have := takR_mono (R := T ++ X) (j := T.length) (k := k) (n := n) (by rw [e]; exact h) (by rw [e]; exact hk)
  rw [e] at this
  exact this.1
theorem numR_app {T : List UInt8} (X : List UInt8) {k : Nat} {n : Int} (hk : k ≤ T.length) (h : (numR T k n).e = 0) : numR (T ++ X) k n = numR T k n := by
  unfold numR at h ⊢
  by_cases hw : isW n = false
  · rw [if_pos hw] at h; cases h
  · rw [if_neg hw] at h ⊢
    rw [if_neg hw]
    exact takR_app X hk h
theorem seekR_app {T : List UInt8} (X : List UInt8) {k : Nat} {a : Int} (h : (seekR T k a).1 = 0) : seekR (T ++ X) k a = seekR T k a ∧ (seekR T k a).2 ≤ T.length := by
  unfold seekR at h ⊢
  by_cases ha : a < 0 ∨ (T.length : Int) < a
  · rw [if_pos ha] at h; cases h
  · rw [if_neg ha, if_neg (by rw [List.length_append]; omega)]
    exact ⟨rfl, by simp only; omega⟩
theorem nm_app {T : List UInt8} (X : List UInt8) {k : Nat} (h : (rdNm T k).e = 0) : rdNm (T ++ X) k = rdNm T k ∧ (rdNm T k).k ≤ T.length ∧ chkN (rdNm T k).s = 0 := by
  unfold rdNm at h ⊢
  by_cases h1 : (readU T k k).f ≠ 0
  · rw [if_pos h1] at h; exact absurd h h1
  · have h1' : (readU T k k).f = 0 := Decidable.not_not.1 h1
    rw [if_neg h1] at h ⊢
    have e := readU_app' X h1'
    by_cases h2 : (seekR T k (readU T k k).e).1 ≠ 0
    · rw [if_pos h2] at h; exact absurd h h2
    · have h2' := Decidable.not_not.1 h2
      obtain ⟨e2, _⟩ := seekR_app X h2'
      obtain ⟨n, hn, ok⟩ := readU_yes h1'
      have : k = n := by omega
      subst this
      rw [e, if_neg h1, e2, if_neg h2]
      exact ⟨rfl, ok.e, ok.chk⟩
/-- A number of two octets is a type. -/
theorem num2_T {T : List UInt8} {k : Nat} (h : (numR T k 2).e = 0) : isT (num (numR T k 2).s : Nat) = true := by
  have hl : (numR T k 2).s.length ≤ 2 := by
    unfold numR takR
    split
    · simp
    · split
      · simp
      · split
        · simp
        · simp only
          exact List.length_take_le _ _
  have h1 := num_lt (numR T k 2).s
  have h2 := Nat.pow_le_pow_right (n := 256) (by omega) hl
  unfold isT
  exact decide_eq_true (by omega)
/-- A question that is read may be, ends within the octets, and is read where more stand behind. -/
theorem quest_app {T : List UInt8} (X : List UInt8) {a : Int} (h : (rdQ T a).e = 0) : rdQ (T ++ X) a = rdQ T a ∧ (rdQ T a).k ≤ T.length ∧ checkQ (rdQ T a).q = 0 := by
  unfold rdQ at h ⊢
  by_cases h1 : (seekR T 0 a).1 ≠ 0
  · rw [if_pos h1] at h; exact absurd h h1
  · obtain ⟨e1, l1⟩ := seekR_app X (Decidable.not_not.1 h1)
    rw [if_neg h1] at h ⊢
    obtain ⟨k, hk⟩ : ∃ k, (seekR T 0 a).2 = k := ⟨_, rfl⟩
    rw [e1, if_neg h1]
    rw [hk] at h l1 ⊢
    by_cases h2 : (rdNm T k).e ≠ 0
    · rw [if_pos h2] at h; exact absurd h h2
    · obtain ⟨e2, l2, c2⟩ := nm_app X (Decidable.not_not.1 h2)
      rw [if_neg h2] at h ⊢
      rw [e2, if_neg h2]
      obtain ⟨y, hy⟩ : ∃ y, rdNm T k = y := ⟨_, rfl⟩
      rw [hy] at h l2 c2 ⊢
      by_cases h3 : (numR T y.k 2).e ≠ 0
      · rw [if_pos h3] at h; exact absurd h h3
      · have h3' := Decidable.not_not.1 h3
        have e3 := numR_app X l2 h3'
        have l3 := numR_le T y.k 2 l2
        have t3 := num2_T h3'
        rw [if_neg h3] at h ⊢
        rw [e3, if_neg h3]
        obtain ⟨z, hz⟩ : ∃ z, numR T y.k 2 = z := ⟨_, rfl⟩
        rw [hz] at h l3 t3 ⊢
        by_cases h4 : (numR T z.k 2).e ≠ 0
        · rw [if_pos h4] at h; exact absurd h h4
        · have h4' := Decidable.not_not.1 h4
          have e4 := numR_app X l3 h4'
          have l4 := numR_le T z.k 2 l3
          have t4 := num2_T h4'
          rw [e4, if_neg h4]
          refine ⟨rfl, l4, ?_⟩
          unfold checkQ
          simp only
          rw [show bs (mkb y.s) = y.s from bs_mk _, if_neg (fun h => h c2), t3, t4]
          rfl
theorem rdName_app {T : List UInt8} (X R : List UInt8) {ptd : Bool} {k : Nat} (h : (rdName T R ptd k).e = 0) : rdName (T ++ X) R ptd k = rdName T R ptd k := by
  unfold rdName at h ⊢
  by_cases h1 : (readU T k (if ptd then k else 0)).f ≠ 0
  · rw [if_pos h1] at h; exact absurd h h1
  · have e := readU_app X (ptd := ptd) (Decidable.not_not.1 h1)
    rw [e]
theorem rdP_app {T : List UInt8} (X R : List UInt8) {p : Pt} {d : MD} {k : Nat} (h : (rdP T R p d k).e = 0) : rdP (T ++ X) R p d k = rdP T R p d k := by
  cases p with
  | nam mail ptd =>
    have h' : (rdName T R ptd k).e = 0 := h
    show (⟨(rdName (T ++ X) R ptd k).e, (rdName (T ++ X) R ptd k).k, putName mail d (mkb (rdName (T ++ X) R ptd k).s)⟩ : RR) = _
    rw [rdName_app X R h']
    rfl
  | adr six => rfl
  | num a b c e f => rfl
  | txt => rfl
  | raw => rfl
theorem rdK_app {T : List UInt8} (X R : List UInt8) : ∀ {K : List Pt} {d : MD} {k : Nat}, (rdK T R K d k).e = 0 → rdK (T ++ X) R K d k = rdK T R K d k
  | [], d, k, _ => rfl
  | p :: K, d, k, h => by
    unfold rdK at h ⊢
    by_cases h1 : (rdP T R p d k).e ≠ 0
    · rw [if_pos h1] at h; exact absurd h h1
    · rw [if_neg h1] at h ⊢
      rw [rdP_app X R (Decidable.not_not.1 h1), if_neg h1]
      exact rdK_app X R h
/-- Data that are read may be, and are read where more stands behind. -/
theorem data_app {T : List UInt8} (X : List UInt8) {a e t : Int} (h : (readD T a e t).1 = 0) : readD (T ++ X) a e t = readD T a e t ∧ checkD t (readD T a e t).2 = 0 := by
  unfold readD at h ⊢
  by_cases ht : isT t = true
  · rw [if_pos ht] at h ⊢
    rw [if_pos ht]
    by_cases h1 : e < 0 ∨ (T.length : Int) < e
    · rw [if_pos h1] at h; cases h
    · have h1' : ¬ (e < 0 ∨ ((T ++ X).length : Int) < e) := by rw [List.length_append]; omega
      rw [if_neg h1] at h ⊢
      rw [if_neg h1']
      by_cases h2 : a < 0 ∨ e < a
      · rw [if_pos h2] at h; cases h
      · rw [if_neg h2] at h ⊢
        rw [if_neg h2]
        have et : (T ++ X).take e.toNat = T.take e.toNat := List.take_append_of_le_length (by omega)
        rw [et]
        by_cases h3 : (rdK T (T.take e.toNat) (kindK t) md0 a.toNat).e ≠ 0
        · rw [if_pos h3] at h; exact absurd h h3
        · rw [rdK_app X _ (Decidable.not_not.1 h3), if_neg h3]
          rw [if_neg h3] at h
          by_cases h4 : (rdK T (T.take e.toNat) (kindK t) md0 a.toNat).k < e.toNat ∨ allK (kindK t) (rdK T (T.take e.toNat) (kindK t) md0 a.toNat).d ≠ 0
          · rw [if_pos h4] at h; cases h
          · rw [if_neg h4]
            refine ⟨rfl, ?_⟩
            unfold checkD
            rw [if_pos ht]
            exact Decidable.not_not.1 fun hx => h4 (.inr hx)
  · rw [if_neg ht] at h; cases h
theorem tail_app {T : List UInt8} (X : List UInt8) {q : MQ} {k : Nat} (hk : k ≤ T.length) (h : (rdTail T q k).e = 0) : rdTail (T ++ X) q k = rdTail T q k ∧ (rdTail T q k).k ≤ T.length ∧ (rdTail T q k).r.q = q ∧ checkD q.t (rdTail T q k).r.d = 0 := by
  unfold rdTail at h ⊢
  by_cases h1 : (numR T k 4).e ≠ 0
  · rw [if_pos h1] at h; exact absurd h h1
  · have e1 := numR_app X hk (Decidable.not_not.1 h1)
    have l1 := numR_le T k 4 hk
    rw [if_neg h1] at h ⊢
    rw [e1, if_neg h1]
    obtain ⟨y, hy⟩ : ∃ y, numR T k 4 = y := ⟨_, rfl⟩
    rw [hy] at h l1 ⊢
    by_cases h2 : (numR T y.k 2).e ≠ 0
    · rw [if_pos h2] at h; exact absurd h h2
    · have e2 := numR_app X l1 (Decidable.not_not.1 h2)
      have l2 := numR_le T y.k 2 l1
      rw [if_neg h2] at h ⊢
      rw [e2, if_neg h2]
      obtain ⟨z, hz⟩ : ∃ z, numR T y.k 2 = z := ⟨_, rfl⟩
      rw [hz] at h l2 ⊢
      by_cases h3 : (takR T z.k (num z.s : Nat)).e ≠ 0
      · rw [if_pos h3] at h; exact absurd h h3
      · have e3 := takR_app X l2 (Decidable.not_not.1 h3)
        have l3 := takR_le T z.k (num z.s : Nat) l2
        rw [if_neg h3] at h ⊢
        rw [e3, if_neg h3]
        obtain ⟨v, hv⟩ : ∃ v, takR T z.k (num z.s : Nat) = v := ⟨_, rfl⟩
        rw [hv] at h l3 ⊢
        by_cases h4 : (readD T z.k v.k q.t).1 ≠ 0
        · rw [if_pos h4] at h; exact absurd h h4
        · obtain ⟨e4, c4⟩ := data_app X (Decidable.not_not.1 h4)
          rw [e4, if_neg h4]
          exact ⟨rfl, l3, rfl, c4⟩
/-- A record that is read may be, ends within the octets, and is read where more stand behind. -/
theorem rec_app {T : List UInt8} (X : List UInt8) {a : Int} (h : (rdR T a).e = 0) : rdR (T ++ X) a = rdR T a ∧ (rdR T a).k ≤ T.length ∧ checkR (rdR T a).r = 0 := by
  unfold rdR at h ⊢
  by_cases h1 : (rdQ T a).e ≠ 0
  · rw [if_pos h1] at h; exact absurd h h1
  · obtain ⟨e1, l1, c1⟩ := quest_app X (Decidable.not_not.1 h1)
    rw [if_neg h1] at h ⊢
    rw [e1, if_neg h1]
    obtain ⟨e2, l2, q2, c2⟩ := tail_app X l1 h
    rw [e2]
    refine ⟨rfl, l2, ?_⟩
    have ht : (rdTail T (rdQ T a).q (rdQ T a).k).r.t = (rdQ T a).q.t := congrArg MQ.t q2
    unfold checkR
    rw [q2, if_neg (fun h => h c1), ht]
    exact c2
theorem row_app {α : Type} {f g : Nat → Nat × Nat × α} {P : α → Prop} (hf : ∀ k, (f k).1 = 0 → g k = f k ∧ P (f k).2.2) : ∀ {n k : Nat}, (rdRow f n k).1 = 0 → rdRow g n k = rdRow f n k ∧ (∀ x ∈ (rdRow f n k).2.2, P x) ∧ (rdRow f n k).2.2.length = n
  | 0, k, _ => ⟨rfl, fun x h => (nomatch h), rfl⟩
  | n + 1, k, h => by
    by_cases h1 : (f k).1 = 0
    · obtain ⟨e1, p1⟩ := hf k h1
      by_cases h2 : (rdRow f n (f k).2.1).1 = 0
      · obtain ⟨e2, p2, l2⟩ := row_app hf h2
        have ef : rdRow f (n + 1) k = (0, (rdRow f n (f k).2.1).2.1, (f k).2.2 :: (rdRow f n (f k).2.1).2.2) := by rw [rdRow, if_pos h1, if_pos h2]
        have eg : rdRow g (n + 1) k = rdRow f (n + 1) k := by rw [rdRow, e1, if_pos h1, e2, if_pos h2, ef]
        rw [eg, ef]
        refine ⟨rfl, fun x hx => ?_, by simp [l2]⟩
        rcases List.mem_cons.1 hx with e | hx
        · rw [e]; exact p1
        · exact p2 x hx
      · rw [rdRow, if_pos h1, if_neg h2] at h
        exact absurd h h2
    · rw [rdRow, if_neg h1] at h
      exact absurd h h1
theorem rowQ_app {T : List UInt8} (X : List UInt8) {n k : Nat} (h : (rdRow (fQ T) n k).1 = 0) : rdRow (fQ (T ++ X)) n k = rdRow (fQ T) n k ∧ (∀ x ∈ (rdRow (fQ T) n k).2.2, checkQ x = 0) ∧ (rdRow (fQ T) n k).2.2.length = n :=
  row_app (fun k hk => by
    obtain ⟨e, _, c⟩ := quest_app X (T := T) (a := (k : Nat)) hk
    refine ⟨?_, c⟩
    unfold fQ
    rw [e]) h
theorem rowR_app {T : List UInt8} (X : List UInt8) {n k : Nat} (h : (rdRow (fR T) n k).1 = 0) : rdRow (fR (T ++ X)) n k = rdRow (fR T) n k ∧ (∀ x ∈ (rdRow (fR T) n k).2.2, checkR x = 0) ∧ (rdRow (fR T) n k).2.2.length = n :=
  row_app (fun k hk => by
    obtain ⟨e, _, c⟩ := rec_app X (T := T) (a := (k : Nat)) hk
    refine ⟨?_, c⟩
    unfold fR
    rw [e]) h
theorem rdS_ok {T : List UInt8} {h : Hd} {j : Nat} (hj : (rdS T h (j + 1)).1 = 0) : (rdS T h j).1 = 0 ∧ (rdRow (fR T) (cnR h j) (rdS T h j).2).1 = 0 := by
  rw [rdS] at hj
  by_cases h1 : (rdS T h j).1 = 0
  · rw [if_pos h1] at hj
    exact ⟨h1, hj⟩
  · rw [if_neg h1] at hj
    exact absurd hj h1
theorem rdS_app {T : List UInt8} (X : List UInt8) {h : Hd} : ∀ {j : Nat}, (rdS T h j).1 = 0 → rdS (T ++ X) h j = rdS T h j
  | 0, h0 => by
    rw [rdS, rdS]
    rw [rdS] at h0
    rw [(rowQ_app X h0).1]
  | j + 1, h0 => by
    obtain ⟨h1, h2⟩ := rdS_ok h0
    have e := rdS_app X h1
    rw [rdS, rdS, e, if_pos h1, if_pos h1, (rowR_app X h2).1]
theorem wdAt_app {T : List UInt8} (X : List UInt8) {k : Nat} (h : 2 * k + 2 ≤ T.length) : wdAt (T ++ X) k = wdAt T k := by
  unfold wdAt
  rw [List.drop_append_of_le_length (by omega), List.take_append_of_le_length (by rw [List.length_drop]; omega)]
theorem head_app {T : List UInt8} (X : List UInt8) (h : rdE T = 0) : rdE (T ++ X) = 0 ∧ rdV (T ++ X) = rdV T := by
  have hl : 12 ≤ T.length := (read_put h).2.2.1
  have e1 : rdE (T ++ X) = rdE T := by
    unfold rdE
    rw [wdAt_app X (by omega)]
    have c1 : ¬ (T ++ X).length < 12 := by rw [List.length_append]; omega
    have c2 : ¬ T.length < 12 := by omega
    rw [if_neg c1, if_neg c2]
  have e2 : rdE (T ++ X) = 0 := e1.trans h
  refine ⟨e2, ?_⟩
  unfold rdV
  rw [if_pos e2, if_pos h, wdAt_app X (by omega), wdAt_app X (by omega), wdAt_app X (by omega), wdAt_app X (by omega), wdAt_app X (by omega), wdAt_app X (by omega)]
structure RdYes (T : List UInt8) : Prop where
  few : T.length ≤ 65535
  e : rdE T = 0
  s : (rdS T (rdV T) 3).1 = 0
  k : T.length ≤ (rdS T (rdV T) 3).2
theorem rdErr_zero {T : List UInt8} (h : rdErr T = 0) : RdYes T := by
  unfold rdErr at h
  by_cases h1 : 65535 < T.length
  · rw [if_pos h1] at h; cases h
  · rw [if_neg h1] at h
    by_cases h2 : rdE T ≠ 0
    · rw [if_pos h2] at h; exact absurd h h2
    · rw [if_neg h2] at h
      by_cases h3 : (rdS T (rdV T) 3).1 ≠ 0
      · rw [if_pos h3] at h; exact absurd h h3
      · rw [if_neg h3] at h
        by_cases h4 : (rdS T (rdV T) 3).2 < T.length
        · rw [if_pos h4] at h; cases h
        · exact ⟨by omega, Decidable.not_not.1 h2, Decidable.not_not.1 h3, by omega⟩
theorem rdS_le {T : List UInt8} {h : Hd} (h12 : 12 ≤ T.length) : ∀ {j : Nat}, (rdS T h j).1 = 0 → (rdS T h j).2 ≤ T.length := by
  have rowle : ∀ {α : Type} {f : Nat → Nat × Nat × α}, (∀ k, (f k).1 = 0 → (f k).2.1 ≤ T.length) → ∀ {n k : Nat}, k ≤ T.length → (rdRow f n k).1 = 0 → (rdRow f n k).2.1 ≤ T.length := by
    intro α f hf n
    induction n with
    | zero => exact fun hk _ => hk
    | succ n ih =>
      intro k hk h0
      by_cases h1 : (f k).1 = 0
      · by_cases h2 : (rdRow f n (f k).2.1).1 = 0
        · rw [rdRow, if_pos h1, if_pos h2]
          exact ih (hf k h1) h2
        · rw [rdRow, if_pos h1, if_neg h2] at h0; exact absurd h0 h2
      · rw [rdRow, if_neg h1] at h0; exact absurd h0 h1
  intro j
  induction j with
  | zero =>
    intro h0
    rw [rdS] at h0 ⊢
    exact rowle (fun k hk => (quest_app [] (T := T) (a := (k : Nat)) hk).2.1) h12 h0
  | succ j ih =>
    intro h0
    obtain ⟨h1, h2⟩ := rdS_ok h0
    rw [rdS, if_pos h1]
    exact rowle (fun k hk => (rec_app [] (T := T) (a := (k : Nat)) hk).2.1) (ih h1) h2
/-- Longer than what is read it is none. -/
theorem err_more {T : List UInt8} (h : rdErr T = 0) {X : List UInt8} (hX : X ≠ []) (hl : (T ++ X).length ≤ 65535) : rdErr (T ++ X) = 4 := by
  obtain ⟨_, he, hs, hk⟩ := rdErr_zero h
  obtain ⟨e1, e2⟩ := head_app X he
  have h12 := (read_put he).2.2.1
  have hle := rdS_le (h := rdV T) h12 hs
  have hXl : 0 < X.length := List.length_pos_iff.2 hX
  unfold rdErr
  rw [if_neg (by omega), e1, if_neg (fun h => h rfl), e2, rdS_app X hs, if_neg (fun h => h hs), if_pos (by rw [List.length_append]; omega)]
/-- Cut anywhere it is none. -/
theorem err_cut {T : List UInt8} (h : rdErr T = 0) {n : Nat} (hn : n < T.length) : rdErr (T.take n) ≠ 0 := by
  intro h0
  have hx : T.drop n ≠ [] := fun e => by have := congrArg List.length e; rw [List.length_drop] at this; simp at this; omega
  have := err_more h0 hx (by rw [List.take_append_drop]; exact (rdErr_zero h).few)
  rw [List.take_append_drop] at this
  omega
/-- What is read may be. -/
theorem read_may {T : List UInt8} {m : MM} (h : rdErr T = 0) (ok : RdOk T m) : OkM m := by
  obtain ⟨_, he, hs, hk⟩ := rdErr_zero h
  obtain ⟨hm, _⟩ := read_put he
  obtain ⟨s2, r3⟩ := rdS_ok hs
  obtain ⟨s1, r2⟩ := rdS_ok s2
  obtain ⟨s0, r1⟩ := rdS_ok s1
  rw [rdS] at s0
  obtain ⟨_, cq, lq⟩ := rowQ_app [] s0
  obtain ⟨_, c1, l1⟩ := rowR_app [] r1
  obtain ⟨_, c2, l2⟩ := rowR_app [] r2
  obtain ⟨_, c3, l3⟩ := rowR_app [] r3
  obtain ⟨o1, o2, o3, o4, o5⟩ := ok
  have ql : m.q.length = (rdV T).n0.toNat := by rw [o2]; exact lq
  have al : m.a.length = (rdV T).n1.toNat := by rw [← List.length_map (f := Prod.fst), o3]; exact l1
  have ul : m.u.length = (rdV T).n2.toNat := by rw [← List.length_map (f := Prod.fst), o4]; exact l2
  have ml : m.m.length = (rdV T).n3.toNat := by rw [← List.length_map (f := Prod.fst), o5]; exact l3
  have hx : ∀ (l : List RV) (k : List MR), l.map Prod.fst = k → (∀ x ∈ k, checkR x = 0) → ∀ x ∈ l, checkR x.1 = 0 := fun l k e hk x hx => hk x.1 (by rw [← e]; exact List.mem_map_of_mem hx)
  refine ⟨by rw [o1]; exact hm, ?_, ?_, ?_, ?_, fun x hx => cq x (by rw [o2] at hx; exact hx), fun x hm' => ?_⟩
  · rw [o1, ql]; have := hm.n0; omega
  · rw [o1, al]; have := hm.n1; omega
  · rw [o1, ul]; have := hm.n2; omega
  · rw [o1, ml]; have := hm.n3; omega
  · rcases mem_recs.1 hm' with h | h | h
    · exact hx _ _ o3 c1 x h
    · exact hx _ _ o4 c2 x h
    · exact hx _ _ o5 c3 x h
end Go.Proofs.YtadeflehdfmilaaGreat
