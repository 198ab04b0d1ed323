/-
  What is put in more room, or in less: it is the same as long as it fits; the one error is that of the room: plain mathematics. Conditions as each theorem names them.
-/
import Derived.Test.YtadeflehdfmilaaGreatZk42
namespace Go.Proofs.YtadeflehdfmilaaGreat
open Go.RowKit
set_option linter.unusedVariables false
set_option maxRecDepth 10000

def F3 (f : Nat) : Prop := f = 0 ∨ f = 3
/-- F puts in the room M what F' puts in the room M'. -/
structure Mo (M : Nat) (F F' : PS → Nat × PS) : Prop where
  st : ∀ s, (F s).2.f = 0 → s.f = 0
  st' : ∀ s, (F' s).2.f = 0 → s.f = 0
  gr' : ∀ s, s.l.length ≤ (F' s).2.l.length
  up : ∀ s, (F s).2.f = 0 → F' s = F s
  dn : ∀ s, (F' s).2.f = 0 → (F' s).2.l.length ≤ M → F s = F' s
  e3 : ∀ s, F3 s.f → F3 (F s).2.f
section
variable {M M' : Nat}
theorem mo_put (hM : M ≤ M') (x : List UInt8) : Mo M (fun s => putS M s x) (fun s => putS M' s x) := by
  have h0 : ∀ (K : Nat) (s : PS), s.f ≠ 0 → putS K s x = (s.f, s) := fun K s hf => by unfold putS putW; rw [if_pos hf]
  have h1 : ∀ (K : Nat) (s : PS), s.f = 0 → K < s.l.length + x.length → putS K s x = (3, { s with f := 3 }) := fun K s hf hl => by unfold putS putW; rw [if_neg (fun h => h hf), if_pos hl]
  have h2 : ∀ (K : Nat) (s : PS), s.f = 0 → ¬ K < s.l.length + x.length → putS K s x = (0, { s with l := s.l ++ x, f := 0 }) := fun K s hf hl => by unfold putS putW; rw [if_neg (fun h => h hf), if_neg hl]
  have hst : ∀ (K : Nat) (s : PS), (putS K s x).2.f = 0 → s.f = 0 ∧ ¬ K < s.l.length + x.length := fun K s h => by
    by_cases hf : s.f = 0
    · by_cases hl : K < s.l.length + x.length
      · rw [h1 K s hf hl] at h; cases h
      · exact ⟨hf, hl⟩
    · rw [h0 K s hf] at h; exact absurd h hf
  refine ⟨fun s h => (hst M s h).1, fun s h => (hst M' s h).1, fun s => ?_, fun s h => ?_, fun s h hl => ?_, fun s h => ?_⟩
  · exact putW_grow ..
  · obtain ⟨hf, hl⟩ := hst M s h
    rw [h2 M s hf hl, h2 M' s hf (by omega)]
  · obtain ⟨hf, hl'⟩ := hst M' s h
    simp only [h2 M' s hf hl', List.length_append] at hl ⊢
    rw [h2 M s hf (by omega)]
  · by_cases hf : s.f = 0
    · by_cases hl : M < s.l.length + x.length
      · simp only [h1 M s hf hl]; exact .inr rfl
      · simp only [h2 M s hf hl]; exact .inl rfl
    · simp only [h0 M s hf]; exact h
theorem numS_bad {K : Nat} {s : PS} {v : Nat} {n : Int} (hr : room v n = false) : (numS K s v n).2 = s ∧ (numS K s v n).1 = (if s.f ≠ 0 then s.f else 2) := by
  unfold numS numW
  by_cases hf : s.f = 0
  · rw [if_neg (fun h => h hf), if_pos hr, if_neg (fun h => h hf)]
    exact ⟨rfl, rfl⟩
  · rw [if_pos hf, if_pos hf]
    exact ⟨rfl, rfl⟩
theorem numS_put {K : Nat} {s : PS} {v : Nat} {n : Int} (hr : room v n = true) : numS K s v n = putS K s (octs v n.toNat) := by
  unfold numS putS numW
  by_cases hf : s.f = 0
  · rw [if_neg (fun h => h hf), if_neg (by rw [hr]; decide)]
  · rw [if_pos hf]
    unfold putW
    rw [if_pos hf]
theorem mo_same {F : PS → Nat × PS} (hF : ∀ s, (F s).2 = s) : Mo M F F :=
  ⟨fun s h => by rw [hF] at h; exact h, fun s h => by rw [hF] at h; exact h, fun s => by rw [hF]; exact Nat.le_refl _, fun _ _ => rfl, fun _ _ _ => rfl, fun s h => by rw [hF]; exact h⟩
theorem mo_num (hM : M ≤ M') (v : Nat) (n : Int) : Mo M (fun s => numS M s v n) (fun s => numS M' s v n) := by
  cases hr : room v n with
  | true =>
    have e : ∀ K, (fun s => numS K s v n) = fun s => putS K s (octs v n.toNat) := fun K => funext fun s => numS_put hr
    rw [e, e]
    exact mo_put hM _
  | false =>
    have e : (fun s => numS M' s v n) = fun s => numS M s v n := funext fun s => by
      obtain ⟨a1, a2⟩ := numS_bad (K := M) (s := s) hr
      obtain ⟨b1, b2⟩ := numS_bad (K := M') (s := s) hr
      exact Prod.ext (b2.trans a2.symm) (b1.trans a1.symm)
    rw [e]
    exact mo_same fun s => (numS_bad hr).1
theorem Mo.seq {F F' G G' : PS → Nat × PS} (hF : Mo M F F') (hG : Mo M G G') : Mo M (fun s => if (F s).1 = 0 then G (F s).2 else F s) (fun s => if (F' s).1 = 0 then G' (F' s).2 else F' s) := by
  refine ⟨fun s h => ?_, fun s h => ?_, fun s => ?_, fun s h => ?_, fun s h hl => ?_, fun s h => ?_⟩
  · by_cases hz : (F s).1 = 0
    · simp only [hz, if_true] at h
      exact hF.st s (hG.st _ h)
    · simp only [hz, if_false] at h
      exact hF.st s h
  · by_cases hz : (F' s).1 = 0
    · simp only [hz, if_true] at h
      exact hF.st' s (hG.st' _ h)
    · simp only [hz, if_false] at h
      exact hF.st' s h
  · by_cases hz : (F' s).1 = 0
    · simp only [hz, if_true]
      exact Nat.le_trans (hF.gr' s) (hG.gr' _)
    · simp only [hz, if_false]
      exact hF.gr' s
  · by_cases hz : (F s).1 = 0
    · simp only [hz, if_true] at h ⊢
      have e := hF.up s (hG.st _ h)
      rw [e]
      simp only [hz, if_true]
      exact hG.up _ h
    · simp only [hz, if_false] at h ⊢
      have e := hF.up s h
      rw [e]
      simp only [hz, if_false]
  · by_cases hz : (F' s).1 = 0
    · simp only [hz, if_true] at h hl ⊢
      have e := hF.dn s (hG.st' _ h) (Nat.le_trans (hG.gr' _) hl)
      rw [e]
      simp only [hz, if_true]
      exact hG.dn _ h hl
    · simp only [hz, if_false] at h hl ⊢
      have e := hF.dn s h hl
      rw [e]
      simp only [hz, if_false]
  · by_cases hz : (F s).1 = 0
    · simp only [hz, if_true]
      exact hG.e3 _ (hF.e3 s h)
    · simp only [hz, if_false]
      exact hF.e3 s h
theorem mo_nameF (hM : M ≤ M') : ∀ (k : Nat) (r : List UInt8), Mo M (fun s => nameF M k r s) (fun s => nameF M' k r s)
  | 0, r => mo_same fun s => rfl
  | k + 1, r => by
    by_cases hr : r = []
    · subst hr
      simp only [nameF_nil]
      exact mo_put hM [0]
    · have ih := mo_nameF hM k (restN r)
      have hp := mo_put hM (headN r)
      refine ⟨fun s h => ?_, fun s h => ?_, fun s => ?_, fun s h => ?_, fun s h hl => ?_, fun s h => ?_⟩
      · rcases hm : s.m r with _ | a
        · by_cases hz : (putS M s (headN r)).1 = 0
          · simp only [nameF_next hr hm hz] at h
            have h' := ih.st _ h
            rw [keepS_f] at h'
            exact hp.st s h'
          · simp only [nameF_long hr hm hz] at h
            exact hp.st s h
        · simp only [nameF_some hr hm] at h
          exact (mo_num hM _ _).st s h
      · rcases hm : s.m r with _ | a
        · by_cases hz : (putS M' s (headN r)).1 = 0
          · simp only [nameF_next hr hm hz] at h
            have h' := ih.st' _ h
            rw [keepS_f] at h'
            exact hp.st' s h'
          · simp only [nameF_long hr hm hz] at h
            exact hp.st' s h
        · simp only [nameF_some hr hm] at h
          exact (mo_num hM _ _).st' s h
      · rcases hm : s.m r with _ | a
        · by_cases hz : (putS M' s (headN r)).1 = 0
          · simp only [nameF_next hr hm hz]
            refine Nat.le_trans (hp.gr' s) ?_
            have := ih.gr' (keepS (putS M' s (headN r)).2 r s.l.length)
            rwa [(keep_l _ _ _).1] at this
          · simp only [nameF_long hr hm hz]
            exact hp.gr' s
        · simp only [nameF_some hr hm]
          exact (mo_num hM _ _).gr' s
      · rcases hm : s.m r with _ | a
        · by_cases hz : (putS M s (headN r)).1 = 0
          · simp only [nameF_next hr hm hz] at h ⊢
            have h' := ih.st _ h
            rw [keepS_f] at h'
            have e : putS M' s (headN r) = putS M s (headN r) := hp.up s h'
            have hz' : (putS M' s (headN r)).1 = 0 := by rw [e]; exact hz
            rw [nameF_next hr hm hz', e]
            exact ih.up _ h
          · simp only [nameF_long hr hm hz] at h ⊢
            have e : putS M' s (headN r) = putS M s (headN r) := hp.up s h
            have hz' : ¬ (putS M' s (headN r)).1 = 0 := by rw [e]; exact hz
            rw [nameF_long hr hm hz', e]
        · simp only [nameF_some hr hm] at h ⊢
          exact (mo_num hM _ _).up s h
      · rcases hm : s.m r with _ | a
        · by_cases hz : (putS M' s (headN r)).1 = 0
          · simp only [nameF_next hr hm hz] at h hl ⊢
            have h' := ih.st' _ h
            rw [keepS_f] at h'
            have hl' := ih.gr' (keepS (putS M' s (headN r)).2 r s.l.length)
            rw [(keep_l _ _ _).1] at hl'
            have e : putS M s (headN r) = putS M' s (headN r) := hp.dn s h' (Nat.le_trans hl' hl)
            have hz' : (putS M s (headN r)).1 = 0 := by rw [e]; exact hz
            rw [nameF_next hr hm hz', e]
            exact ih.dn _ h hl
          · simp only [nameF_long hr hm hz] at h hl ⊢
            have e : putS M s (headN r) = putS M' s (headN r) := hp.dn s h hl
            have hz' : ¬ (putS M s (headN r)).1 = 0 := by rw [e]; exact hz
            rw [nameF_long hr hm hz', e]
        · simp only [nameF_some hr hm] at h hl ⊢
          exact (mo_num hM _ _).dn s h hl
      · rcases hm : s.m r with _ | a
        · by_cases hz : (putS M s (headN r)).1 = 0
          · simp only [nameF_next hr hm hz]
            exact ih.e3 _ (by rw [keepS_f]; exact hp.e3 s h)
          · simp only [nameF_long hr hm hz]
            exact hp.e3 s h
        · simp only [nameF_some hr hm]
          exact (mo_num hM _ _).e3 s h
theorem mo_plainF (hM : M ≤ M') : ∀ (k : Nat) (r : List UInt8), Mo M (fun s => plainF M k r s) (fun s => plainF M' k r s)
  | 0, r => mo_same fun s => rfl
  | k + 1, r => by
    by_cases hr : r = []
    · subst hr
      simp only [plainF_nil]
      exact mo_put hM [0]
    · have e : ∀ K, (fun s => plainF K (k + 1) r s) = fun s => if (putS K s (headN r)).1 = 0 then plainF K k (restN r) (putS K s (headN r)).2 else putS K s (headN r) := fun K => funext fun s => by
        by_cases hz : (putS K s (headN r)).1 = 0
        · rw [plainF_next hr hz, if_pos hz]
        · rw [plainF_long hr hz, if_neg hz]
      rw [e, e]
      exact (mo_put hM (headN r)).seq (mo_plainF hM k (restN r))
/-- A guard ahead that does not hang on the room. -/
theorem Mo.guard {F F' : PS → Nat × PS} (hF : Mo M F F') (g : PS → Nat) : Mo M (fun s => if g s ≠ 0 then (g s, s) else F s) (fun s => if g s ≠ 0 then (g s, s) else F' s) := by
  refine ⟨fun s h => ?_, fun s h => ?_, fun s => ?_, fun s h => ?_, fun s h hl => ?_, fun s h => ?_⟩ <;> by_cases hg : g s = 0
  all_goals first
    | (simp only [hg, ne_eq, not_true_eq_false, not_false_eq_true, if_true, if_false] at h hl ⊢ <;> first | exact hF.dn s h hl | rfl)
    | (simp only [hg, ne_eq, not_true_eq_false, not_false_eq_true, if_true, if_false] at h ⊢ <;> first | exact hF.st s h | exact hF.st' s h | exact hF.up s h | exact hF.e3 s h | exact h | rfl)
    | (simp only [hg, ne_eq, not_true_eq_false, not_false_eq_true, if_true, if_false] <;> first | exact hF.gr' s | exact Nat.le_refl _)
theorem mo_name (hM : M ≤ M') (x : List UInt8) : Mo M (fun s => nameS M s x) (fun s => nameS M' s x) := by
  have e : ∀ K, (fun s => nameS K s x) = fun s => if s.f ≠ 0 then (s.f, s) else (fun s => if (fun _ : PS => chkN x) s ≠ 0 then ((fun _ : PS => chkN x) s, s) else nameF K (x.length + 1) x s) s := fun K => rfl
  rw [e, e]
  exact ((mo_nameF hM _ x).guard fun _ => chkN x).guard fun s => s.f
theorem mo_plain (hM : M ≤ M') (x : List UInt8) : Mo M (fun s => plainS M s x) (fun s => plainS M' s x) := by
  have e : ∀ K, (fun s => plainS K s x) = fun s => if s.f ≠ 0 then (s.f, s) else (fun s => if (fun _ : PS => chkN x) s ≠ 0 then ((fun _ : PS => chkN x) s, s) else plainF K (x.length + 1) x s) s := fun K => rfl
  rw [e, e]
  exact ((mo_plainF hM _ x).guard fun _ => chkN x).guard fun s => s.f
theorem mo_nums (hM : M ≤ M') : ∀ (vs ns : List Nat), Mo M (fun s => numsS M vs ns s) (fun s => numsS M' vs ns s)
  | [], _ => mo_same fun s => by unfold numsS; rfl
  | _ :: _, [] => mo_same fun s => by unfold numsS; rfl
  | v :: vs, n :: ns => by
    by_cases hn : n = 0
    · have e : ∀ K, (fun s => numsS K (v :: vs) (n :: ns) s) = fun s => numsS K vs ns s := fun K => funext fun s => by
        conv => lhs; unfold numsS
        rw [if_pos hn]
      rw [e, e]
      exact mo_nums hM vs ns
    · have e : ∀ K, (fun s => numsS K (v :: vs) (n :: ns) s) = fun s => if (numS K s v n).1 = 0 then numsS K vs ns (numS K s v n).2 else numS K s v n := fun K => funext fun s => by
        conv => lhs; unfold numsS
        rw [if_neg hn]
      rw [e, e]
      exact (mo_num hM v n).seq (mo_nums hM vs ns)
theorem mo_texts (hM : M ≤ M') : ∀ (L : List ByteArray), Mo M (fun s => textsS M L s) (fun s => textsS M' L s)
  | [] => mo_same fun s => rfl
  | x :: L => by
    have e : ∀ K, (fun s => textsS K (x :: L) s) = fun s => if (textS1 K s x).1 = 0 then textsS K L (textS1 K s x).2 else textS1 K s x := fun K => funext fun s => rfl
    have e1 : ∀ K, (fun s => textS1 K s x) = fun s => if (numS K s x.size 1).1 = 0 then putS K (numS K s x.size 1).2 (bs x) else numS K s x.size 1 := fun K => rfl
    have h1 : Mo M (fun s => textS1 M s x) (fun s => textS1 M' s x) := by rw [e1, e1]; exact (mo_num hM x.size 1).seq (mo_put hM (bs x))
    rw [e, e]
    exact h1.seq (mo_texts hM L)
theorem mo_putP (hM : M ≤ M') (p : Pt) (d : MD) : Mo M (fun s => putP M p d s) (fun s => putP M' p d s) := by
  cases p with
  | adr six => exact mo_put hM _
  | nam mail ptd => cases ptd; exact mo_plain hM _; exact mo_name hM _
  | num a b c e f => exact mo_nums hM _ _
  | txt => exact mo_texts hM _
  | raw => exact mo_put hM _
theorem mo_putK (hM : M ≤ M') (d : MD) : ∀ K : List Pt, Mo M (fun s => putK M K d s) (fun s => putK M' K d s)
  | [] => mo_same fun s => rfl
  | p :: K => by
    have e : ∀ X, (fun s => putK X (p :: K) d s) = fun s => if (putP X p d s).1 = 0 then putK X K d (putP X p d s).2 else putP X p d s := fun X => funext fun s => rfl
    rw [e, e]
    exact (mo_putP hM p d).seq (mo_putK hM d K)
theorem mo_putD (hM : M ≤ M') (t : Int) (d : MD) : Mo M (fun s => putD M t d s) (fun s => putD M' t d s) := by
  unfold putD
  cases isT t with
  | true => exact (mo_putK hM d (kindK t)).guard fun _ => allK (kindK t) d
  | false => exact mo_same fun s => rfl

/-! ### States alone -/
structure Ms (M : Nat) (F F' : PS → PS) : Prop where
  st : ∀ s, (F s).f = 0 → s.f = 0
  st' : ∀ s, (F' s).f = 0 → s.f = 0
  gr' : ∀ s, s.l.length ≤ (F' s).l.length
  up : ∀ s, (F s).f = 0 → F' s = F s
  dn : ∀ s, (F' s).f = 0 → (F' s).l.length ≤ M → F s = F' s
  e3 : ∀ s, F3 s.f → F3 (F s).f
theorem Mo.ms {F F' : PS → Nat × PS} (h : Mo M F F') : Ms M (fun s => (F s).2) (fun s => (F' s).2) :=
  ⟨h.st, h.st', h.gr', fun s hs => congrArg Prod.snd (h.up s hs), fun s hs hl => congrArg Prod.snd (h.dn s hs hl), h.e3⟩
theorem Ms.then_ {F F' G G' : PS → PS} (hF : Ms M F F') (hG : Ms M G G') : Ms M (fun s => G (F s)) (fun s => G' (F' s)) :=
  ⟨fun s h => hF.st s (hG.st _ h), fun s h => hF.st' s (hG.st' _ h), fun s => Nat.le_trans (hF.gr' s) (hG.gr' _),
   fun s h => by (try simp only at h ⊢); rw [hF.up s (hG.st _ h)]; exact hG.up _ h,
   fun s h hl => by (try simp only at h hl ⊢); rw [hF.dn s (hG.st' _ h) (Nat.le_trans (hG.gr' _) hl)]; exact hG.dn _ h hl,
   fun s h => hG.e3 _ (hF.e3 s h)⟩
theorem ms_q3 (hM : M ≤ M') (q : MQ) : Ms M (fun s => putQ3 M q s) (fun s => putQ3 M' q s) :=
  ((mo_name hM (bs q.n)).ms.then_ (mo_num hM q.t.toNat 2).ms).then_ (mo_num hM q.c.toNat 2).ms
theorem mo_putQ (hM : M ≤ M') (q : MQ) : Mo M (fun s => putQ M q s) (fun s => putQ M' q s) := by
  have h3 := ms_q3 hM q
  have h : Mo M (fun s => ((putQ3 M q s).f, putQ3 M q s)) (fun s => ((putQ3 M' q s).f, putQ3 M' q s)) :=
    ⟨h3.st, h3.st', h3.gr', fun s hs => by have := h3.up s hs; (try simp only at this ⊢); rw [this], fun s hs hl => by have := h3.dn s hs hl; (try simp only at this ⊢); rw [this], h3.e3⟩
  exact h.guard fun s => refC s.f (checkQ q)
theorem over_ge (l : List UInt8) (k : Nat) (x : List UInt8) : l.length ≤ (over l k x).length := by
  simp only [over, List.length_append, List.length_take, List.length_drop]
  omega
theorem beginS_up (hM : M ≤ M') (s : PS) (h : (beginS M s).2.2.f = 0) : s.f = 0 ∧ beginS M' s = beginS M s := by
  have hn := mo_num hM 0 2
  by_cases hz : (numS M s 0 2).1 = 0
  · unfold beginS at h ⊢
    rw [if_pos hz] at h ⊢
    have h' : (numS M s 0 2).2.f = 0 := h
    have e : numS M' s 0 2 = numS M s 0 2 := hn.up s h'
    rw [e, if_pos hz]
    exact ⟨hn.st s h', rfl⟩
  · unfold beginS at h ⊢
    rw [if_neg hz] at h ⊢
    have h' : (numS M s 0 2).2.f = 0 := h
    have e : numS M' s 0 2 = numS M s 0 2 := hn.up s h'
    rw [e, if_neg hz]
    exact ⟨hn.st s h', rfl⟩
theorem beginS_dn (hM : M ≤ M') (s : PS) (h : (beginS M' s).2.2.f = 0) (hl : (beginS M' s).2.2.l.length ≤ M) : s.f = 0 ∧ beginS M s = beginS M' s := by
  have hn := mo_num hM 0 2
  by_cases hz : (numS M' s 0 2).1 = 0
  · unfold beginS at h hl ⊢
    rw [if_pos hz] at h hl ⊢
    have h' : (numS M' s 0 2).2.f = 0 := h
    have e : numS M s 0 2 = numS M' s 0 2 := hn.dn s h' hl
    rw [e, if_pos hz]
    exact ⟨hn.st' s h', rfl⟩
  · unfold beginS at h hl ⊢
    rw [if_neg hz] at h hl ⊢
    have h' : (numS M' s 0 2).2.f = 0 := h
    have e : numS M s 0 2 = numS M' s 0 2 := hn.dn s h' hl
    rw [e, if_neg hz]
    exact ⟨hn.st' s h', rfl⟩
theorem beginS_gr (K : Nat) (s : PS) : s.l.length ≤ (beginS K s).2.2.l.length := by
  unfold beginS
  split
  · exact (mo_num (Nat.le_refl K) 0 2).gr' s
  · exact (mo_num (Nat.le_refl K) 0 2).gr' s
theorem beginS_e3 (K : Nat) (s : PS) (h : F3 s.f) : F3 (beginS K s).2.2.f := by
  unfold beginS
  split
  · exact (mo_num (Nat.le_refl K) 0 2).e3 s h
  · exact (mo_num (Nat.le_refl K) 0 2).e3 s h
theorem endS_gr (s : PS) (a : Int) : s.l.length ≤ (endS s a).2.l.length := by
  unfold endS
  split
  · exact Nat.le_refl _
  · split
    · exact Nat.le_refl _
    · split
      · exact over_ge _ _ _
      · exact Nat.le_refl _
theorem ms_r5 (hM : M ≤ M') (r : MR) : Ms M (fun s => putR5 M r s) (fun s => putR5 M' r s) := by
  have h2 : Ms M (fun s => putR2 M r s) (fun s => putR2 M' r s) := (mo_putQ hM r.q).ms.then_ (mo_num hM r.x 4).ms
  have hD := (mo_putD hM r.t r.d).ms
  have hf5 : ∀ K s, (putR5 K r s).f = (putR4 K r s).f := fun K s => endS_f _ _
  refine ⟨fun s h => ?_, fun s h => ?_, fun s => ?_, fun s h => ?_, fun s h hl => ?_, fun s h => ?_⟩
  · simp only [hf5] at h
    exact h2.st s (beginS_up hM _ (hD.st _ h)).1
  · simp only [hf5] at h
    exact h2.st' s (beginS_up (Nat.le_refl M') _ (hD.st' _ h)).1
  · exact Nat.le_trans (h2.gr' s) (Nat.le_trans (beginS_gr M' _) (Nat.le_trans (hD.gr' _) (endS_gr _ _)))
  · simp only [hf5] at h
    have hb := hD.st _ h
    have e3 := (beginS_up hM _ hb).2
    have e2 := h2.up s (beginS_up hM _ hb).1
    have e3' : putR3 M' r s = putR3 M r s := by unfold putR3; (try simp only at e2); rw [e2]; exact e3
    have e4 : putR4 M' r s = putR4 M r s := by unfold putR4; rw [e3']; exact hD.up _ h
    simp only [putR5]
    rw [e4, e3']
  · simp only [hf5] at h
    have hl4 : (putR4 M' r s).l.length ≤ M := Nat.le_trans (endS_gr _ _) hl
    have hb := hD.st' _ h
    have hl3 : (putR3 M' r s).2.2.l.length ≤ M := Nat.le_trans (hD.gr' _) hl4
    obtain ⟨hf2, e3⟩ := beginS_dn hM (putR2 M' r s) hb hl3
    have e2 := h2.dn s hf2 (Nat.le_trans (beginS_gr M' _) hl3)
    have e3' : putR3 M r s = putR3 M' r s := by unfold putR3; (try simp only at e2); rw [e2]; exact e3
    have e4 : putR4 M r s = putR4 M' r s := by unfold putR4; rw [e3']; exact hD.dn _ h hl4
    simp only [putR5]
    rw [e4, e3']
  · simp only [hf5]
    exact hD.e3 _ (beginS_e3 M _ (h2.e3 s h))
theorem mo_putR (hM : M ≤ M') (r : MR) : Mo M (fun s => putR M r s) (fun s => putR M' r s) := by
  have h5 := ms_r5 hM r
  have h : Mo M (fun s => ((putR5 M r s).f, putR5 M r s)) (fun s => ((putR5 M' r s).f, putR5 M' r s)) :=
    ⟨h5.st, h5.st', h5.gr', fun s hs => by have := h5.up s hs; (try simp only at this ⊢); rw [this], fun s hs hl => by have := h5.dn s hs hl; (try simp only at this ⊢); rw [this], h5.e3⟩
  exact h.guard fun s => refC s.f (checkR r)
theorem ms_qs (hM : M ≤ M') : ∀ l : List MQ, Ms M (fun s => putQs M l s) (fun s => putQs M' l s)
  | [] => (mo_same (F := fun s => (0, s)) fun s => rfl).ms
  | q :: l => (mo_putQ hM q).ms.then_ (ms_qs hM l)
theorem mo_rs (hM : M ≤ M') : ∀ l : List RV, Mo M (fun s => putRs M l s) (fun s => putRs M' l s)
  | [] => mo_same fun s => rfl
  | x :: l => by
    have h1 := mo_putR hM x.1
    have h2 := mo_rs hM l
    refine ⟨fun s h => ?_, fun s h => ?_, fun s => ?_, fun s h => ?_, fun s h hl => ?_, fun s h => ?_⟩
    · by_cases hz : (putR M x.1 s).1 = 0
      · simp only [putRs, hz, if_true] at h
        exact h1.st s (h2.st _ h)
      · simp only [putRs, hz, if_false] at h
        exact h1.st s h
    · by_cases hz : (putR M' x.1 s).1 = 0
      · simp only [putRs, hz, if_true] at h
        exact h1.st' s (h2.st' _ h)
      · simp only [putRs, hz, if_false] at h
        exact h1.st' s h
    · by_cases hz : (putR M' x.1 s).1 = 0
      · simp only [putRs, hz, if_true]
        exact Nat.le_trans (h1.gr' s) (h2.gr' _)
      · simp only [putRs, hz, if_false]
        exact h1.gr' s
    · by_cases hz : (putR M x.1 s).1 = 0
      · simp only [putRs, hz, if_true] at h ⊢
        have e : putR M' x.1 s = putR M x.1 s := h1.up s (h2.st _ h)
        have e2 : putRs M' l (putR M x.1 s).2 = putRs M l (putR M x.1 s).2 := h2.up _ h
        rw [e, if_pos hz, e2]
      · simp only [putRs, hz, if_false] at h ⊢
        have e : putR M' x.1 s = putR M x.1 s := h1.up s h
        rw [e, if_neg hz]
    · by_cases hz : (putR M' x.1 s).1 = 0
      · simp only [putRs, hz, if_true] at h hl ⊢
        have e : putR M x.1 s = putR M' x.1 s := h1.dn s (h2.st' _ h) (Nat.le_trans (h2.gr' _) hl)
        have e2 : putRs M l (putR M' x.1 s).2 = putRs M' l (putR M' x.1 s).2 := h2.dn _ h hl
        rw [e, if_pos hz, e2]
      · simp only [putRs, hz, if_false] at h hl ⊢
        have e : putR M x.1 s = putR M' x.1 s := h1.dn s h hl
        rw [e, if_neg hz]
    · by_cases hz : (putR M x.1 s).1 = 0
      · simp only [putRs, hz, if_true]
        exact h2.e3 _ (h1.e3 s h)
      · simp only [putRs, hz, if_false]
        exact h1.e3 s h
/-- A message in more room, in less. -/
theorem mo_ms (hM : M ≤ M') (m : MM) : ((putMs M m).2.f = 0 → putMs M' m = putMs M m) ∧ ((putMs M' m).2.f = 0 → (putMs M' m).2.l.length ≤ M → putMs M m = putMs M' m) ∧ F3 (putMs M m).2.f := by
  have h := ((mo_put hM (ocH m.h)).ms.then_ (ms_qs hM m.q))
  have hr := mo_rs hM m.recs
  refine ⟨fun h0 => ?_, fun h0 hl => ?_, ?_⟩
  · have e := h.up ps0 (hr.st _ h0)
    unfold putMs putHd
    (try simp only at e)
    rw [e]
    exact hr.up _ h0
  · have e := h.dn ps0 (hr.st' _ h0) (Nat.le_trans (hr.gr' _) hl)
    unfold putMs putHd
    (try simp only at e)
    rw [e]
    exact hr.dn _ h0 hl
  · exact hr.e3 _ (h.e3 ps0 (.inl rfl))
end
end Go.Proofs.YtadeflehdfmilaaGreat
