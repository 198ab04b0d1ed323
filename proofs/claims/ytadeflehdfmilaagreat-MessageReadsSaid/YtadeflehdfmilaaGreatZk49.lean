/-
  Names, parts of data, data, questions, records, rows of them that are put in just the room that they take, and read back: plain mathematics. Conditions as stated.
-/
import Derived.Test.YtadeflehdfmilaaGreatZk48
namespace Go.Proofs.YtadeflehdfmilaaGreat
open Go.RowKit
set_option linter.unusedVariables false
set_option maxRecDepth 10000

theorem nums_putX {M : Nat} : ∀ (vs ns : List Nat) (s : PS), vs.length = ns.length → (∀ n ∈ ns, n ≤ 4) → chkW vs ns = 0 → s.f = 0 → s.l.length + (numsB vs ns).length ≤ M → numsS M vs ns s = (0, { s with l := s.l ++ numsB vs ns })
  | [], [], s, _, _, _, _, _ => by simp [numsS, numsB]
  | [], _ :: _, _, h, _, _, _, _ => by simp at h
  | _ :: _, [], _, h, _, _, _, _ => by simp at h
  | v :: vs, n :: ns, s, hl, h4, hc, hf, hM => by
    obtain ⟨hv, hc'⟩ := chkW_two hc
    have hn4 := h4 n List.mem_cons_self
    simp only [List.length_cons] at hl
    have h4' : ∀ n ∈ ns, n ≤ 4 := fun m hm => h4 m (List.mem_cons_of_mem _ hm)
    have hB : (octs v n ++ numsB vs ns) = numsB (v :: vs) (n :: ns) := rfl
    unfold numsS
    by_cases h0 : n = 0
    · subst h0
      have hM' : s.l.length + (numsB vs ns).length ≤ M := hM
      have h1 := nums_putX (M := M) vs ns s (by omega) h4' hc' hf hM'
      rw [if_pos rfl, h1]
      have : numsB (v :: vs) (0 :: ns) = numsB vs ns := rfl
      rw [this]
    · rw [← hB, List.length_append, octs_length] at hM
      have h1 := nums_putX (M := M) vs ns { s with l := s.l ++ octs v n } (by omega) h4' hc' hf (by simp [octs_length]; omega)
      rw [if_neg h0, numS_ok hf h0 hn4 hv (by omega), if_pos rfl]
      dsimp only
      rw [h1, ← hB]
      simp
theorem nam_backX {s : PS} {x : List UInt8} (h : GoodR s) (hc : chkN x = 0) (hM : s.l.length + (x.length + 1) ≤ 65535) :
    GoodR (nameS 65535 s x).2 ∧ ∃ c, Ru (nameS 65535 s x).2.l s.l.length s.l.length x (nameS 65535 s x).2.l.length c := by
  have hx := chkN_len hc
  obtain ⟨k1, k2, _⟩ := nameS_good (M := 65535) h.good h.inv hc (by omega)
  have k3 := nameS_invU h.inv x
  rw [(nameS_run' h.good.f hc).1] at k2 k3 ⊢
  obtain ⟨h1, ⟨y, h2⟩, h3⟩ := nameF_ru 65535 (x.length + 1) x s s.l.length (by omega) (labs_of_chk hc) h.good.f (by omega) h.inv.mark (fun q a hq _ => h.marks q a hq) (Nat.le_refl _)
  refine ⟨⟨k2, k3, fun q a hq => ?_⟩, h1⟩
  rcases h3 q a hq with h' | h'
  · obtain ⟨g1, e, c, g2⟩ := h.marks q a h'
    rw [h2]
    exact ⟨by rw [List.length_append]; omega, e, c, g2.app y⟩
  · exact h'
theorem plain_backX {s : PS} {x : List UInt8} (h : GoodR s) (hc : chkN x = 0) (hM : s.l.length + (x.length + 1) ≤ 65535) :
    GoodR (plainS 65535 s x).2 ∧ ∃ c, Ru (plainS 65535 s x).2.l 0 s.l.length x (plainS 65535 s x).2.l.length c := by
  have hx := chkN_len hc
  obtain ⟨h3, _⟩ := plainF_put 65535 (x.length + 1) x s (by omega) (labs_of_chk hc) h.good.f (by omega)
  rw [(nameS_run' h.good.f hc).2, h3]
  refine ⟨h.app (by simp; omega), 0, ?_⟩
  obtain ⟨L, hL, hxL⟩ := labs_of_chk hc
  have h1 := Ru.labs (x := s.l ++ (enc L ++ [0])) (r := 0) (n := []) (e := s.l.length + (enc L).length + 1) (c := 0) L s.l [0] hL rfl (.nil (by rw [← List.append_assoc, List.getElem?_append_right (by rw [List.length_append]; omega), List.length_append, Nat.sub_self]; rfl))
  rw [List.append_nil, ← hxL] at h1
  have h2 : s.l.length + x.length + 1 = (s.l ++ (x ++ [0])).length := by simp; omega
  show Ru (s.l ++ (x ++ [0])) 0 s.l.length x (s.l ++ (x ++ [0])).length 0
  rw [← h2]
  exact h1
theorem part_backX {p : Pt} {d : MD} {s : PS} (hw : wired p = true) (h : GoodR s) (hc : chkP p d = 0) (fd : Fit64 d) (hM : s.l.length + sizeP p d ≤ 65535) : PartB s p d (putP 65535 p d s) := by
  cases p with
  | adr six =>
    have sd : d.six = six := by
      by_cases hx : d.six = six
      · exact hx
      · simp [chkP, hx] at hc
    have hc' : chkA d.ad = 0 := by simpa [chkP, sd] using hc
    have hsz : (octA d.ad).length = if six then 16 else 4 := by rw [octA_size]; show (if d.six = true then 16 else 4) = _; rw [sd]
    have hsz' : (octA d.ad).length ≤ 16 := by rw [hsz]; split <;> omega
    have hM' : s.l.length + (octA d.ad).length ≤ 65535 := by rw [hsz]; exact hM
    have hr : putP 65535 (.adr six) d s = (0, { s with l := s.l ++ octA d.ad }) := put0 h.good.f (by omega)
    rw [hr]
    refine ⟨rfl, h.app (by omega), ⟨octA d.ad, rfl, Nat.le_of_eq hsz, by omega, fun _ => by rw [hsz]; split <;> omega⟩, fun z E x h1 h2 => ?_⟩
    have ht := takR_back (A := s.l) (x := octA d.ad) (z := z) (E := E) (by simpa using h1) h2
    have hn : (((octA d.ad).length : Nat) : Int) = (if six = true then 16 else 4) := by rw [hsz]; cases six <;> rfl
    rw [hn] at ht
    have ho := ofA_back hc' ⟨fd.hi, fd.lo⟩
    show rdP (s.l ++ octA d.ad ++ z) ((s.l ++ octA d.ad ++ z).take E) (.adr six) x s.l.length = ⟨0, (s.l ++ octA d.ad).length, _⟩
    simp only [rdP]
    rw [ht]
    simp only [ne_eq, not_true_eq_false, if_false, ho, List.length_append]
    rfl
  | nam mail ptd =>
    have hl := chkN_len (show chkN (bs (nameOf mail d)) = 0 from hc)
    have hcn : chkN (bs (nameOf mail d)) = 0 := hc
    have hsz : sizeP (.nam mail ptd) d = (bs (nameOf mail d)).length + 1 := by
      show sizeN (bs (nameOf mail d)) = _
      unfold sizeN
      rw [if_pos hcn]
    have hM' : s.l.length + ((bs (nameOf mail d)).length + 1) ≤ 65535 := by rw [← hsz]; exact hM
    have hboth : (putP 65535 (.nam mail ptd) d s).1 = 0 ∧ GoodR (putP 65535 (.nam mail ptd) d s).2 ∧ (∃ c, Ru (putP 65535 (.nam mail ptd) d s).2.l (if ptd then s.l.length else 0) s.l.length (bs (nameOf mail d)) (putP 65535 (.nam mail ptd) d s).2.l.length c) ∧ ∃ y, (putP 65535 (.nam mail ptd) d s).2.l = s.l ++ y ∧ y.length ≤ (bs (nameOf mail d)).length + 1 ∧ 1 ≤ y.length := by
      cases ptd
      · obtain ⟨h1, h2⟩ := plain_backX h hcn hM'
        have hk := (plainS_good (M := 65535) (x := bs (nameOf mail d)) h.good hcn (by omega)).1
        obtain ⟨y, e1, e0, e2⟩ := hk.l
        exact ⟨hk.ok, h1, h2, y, e1, e2, e0⟩
      · obtain ⟨h1, h2⟩ := nam_backX h hcn hM'
        have hk := (nameS_good (M := 65535) (x := bs (nameOf mail d)) h.good h.inv hcn (by omega)).1
        obtain ⟨y, e1, e0, e2⟩ := hk.l
        exact ⟨hk.ok, h1, h2, y, e1, e2, e0⟩
    obtain ⟨hok, hg, ⟨c, hru⟩, y, hy, hyl, hy1⟩ := hboth
    refine ⟨hok, hg, ⟨y, hy, by rw [hsz]; exact hyl, by omega, fun _ => by omega⟩, fun z E x h1 h2 => ?_⟩
    have hlen := congrArg List.length hy
    rw [List.length_append] at hlen
    have hb := name_back (T := (putP 65535 (.nam mail ptd) d s).2.l ++ z) (E := E) (ptd := ptd) (hru.app z) hl (by rw [List.length_append]; omega) h1 h2
    show rdP _ _ (.nam mail ptd) x s.l.length = _
    simp only [rdP]
    rw [hb, mkb_bs]
    rfl
  | num a b c e f =>
    have h4 := ws_four hw
    have hsz : (numsB d.vs (ws5 a b c e f)).length = a + b + c + e + f := by simp [numsB, MD.vs, ws5, octs_length]; omega
    have hM' : s.l.length + (numsB d.vs (ws5 a b c e f)).length ≤ 65535 := by rw [hsz]; exact hM
    have h20 : (numsB d.vs (ws5 a b c e f)).length ≤ 20 := by
      rw [hsz]
      have ha := h4 a (by simp [ws5]); have hb := h4 b (by simp [ws5]); have hc := h4 c (by simp [ws5]); have he := h4 e (by simp [ws5]); have hf := h4 f (by simp [ws5])
      omega
    have hr' : putP 65535 (.num a b c e f) d s = (0, { s with l := s.l ++ numsB d.vs (ws5 a b c e f) }) := nums_putX (M := 65535) d.vs (ws5 a b c e f) s rfl h4 hc h.good.f hM'
    rw [hr']
    refine ⟨rfl, h.app (by omega), ⟨_, rfl, Nat.le_of_eq hsz, by omega, fun h => by rw [hsz]; exact h⟩, fun z E x h1 h2 => ?_⟩
    have hb := nums_back d.vs (ws5 a b c e f) s.l z E rfl h4 hc (by simpa using h1) h2
    show rdP (s.l ++ numsB d.vs (ws5 a b c e f) ++ z) ((s.l ++ numsB d.vs (ws5 a b c e f) ++ z).take E) (.num a b c e f) x s.l.length = ⟨0, (s.l ++ numsB d.vs (ws5 a b c e f)).length, _⟩
    simp only [rdP]
    rw [hb, List.length_append]
    rfl
  | txt => cases hw
  | raw => cases hw
theorem kind_backX : ∀ (K : List Pt) (d : MD) (s : PS), (∀ p ∈ K, wired p = true) → (∀ p ∈ K, chkP p d = 0) → Fit64 d → GoodR s → s.l.length + sizeK K d ≤ 65535 → KindB s K d (putK 65535 K d s)
  | [], d, s, _, _, _, _, _ => ⟨rfl, ⟨[], by simp [putK], by simp, fun h => absurd rfl h⟩, fun z E x h1 h2 => rfl⟩
  | p :: K, d, s, hw, hc, fd, hg, hM => by
    have hskM : sizeK (p :: K) d = sizeP p d + sizeK K d := by
      show (List.map (fun q => sizeP q d) (p :: K)).sum = _
      rw [List.map_cons, List.sum_cons]
      rfl
    rw [hskM] at hM
    have hM1 : s.l.length + sizeP p d ≤ 65535 := by omega
    have hp := part_backX (hw p List.mem_cons_self) hg (hc p List.mem_cons_self) fd hM1
    rw [putK_two hp.ok]
    obtain ⟨ok, good, ⟨y, hy, hy1, hy2, hy3⟩, back⟩ := hp
    obtain ⟨s1, hs1⟩ : ∃ s1, (putP 65535 p d s).2 = s1 := ⟨_, rfl⟩
    rw [hs1] at good hy back ⊢
    have hlen := congrArg List.length hy
    rw [List.length_append] at hlen
    obtain ⟨ok2, ⟨y', hy', hyl', hyn'⟩, back2⟩ := kind_backX K d s1 (fun q hq => hw q (List.mem_cons_of_mem _ hq)) (fun q hq => hc q (List.mem_cons_of_mem _ hq)) fd good (by omega)
    have hsk : sizeK (p :: K) d = sizeP p d + sizeK K d := by
      show (List.map (fun q => sizeP q d) (p :: K)).sum = _
      rw [List.map_cons, List.sum_cons]
      rfl
    refine ⟨ok2, ⟨y ++ y', by rw [hy', hy, List.append_assoc], ?_, ?_⟩, fun z E x h1 h2 => ?_⟩
    · rw [List.length_append, hsk]
      exact Nat.add_le_add hy1 hyl'
    · rw [List.length_append, hsk]
      intro hn
      by_cases hz : sizeP p d = 0
      · have := hyn' (by omega); omega
      · have := hy3 hz; omega
    · have hT : (putK 65535 K d s1).2.l ++ z = s1.l ++ (y' ++ z) := by rw [hy', List.append_assoc]
      have hl2 := congrArg List.length hy'
      rw [List.length_append] at hl2
      have hb := back (y' ++ z) E x (by omega) (by rw [← hT]; exact h2)
      have hb2 := back2 z E (copyP p d x) h1 h2
      rw [← hT] at hb
      unfold rdK
      rw [hb]
      simp only [ne_eq, not_true_eq_false, if_false]
      exact hb2

theorem kind_goodX : ∀ (K : List Pt) (d : MD) (s : PS), (∀ p ∈ K, wired p = true) → (∀ p ∈ K, chkP p d = 0) → Fit64 d → GoodR s → s.l.length + sizeK K d ≤ 65535 → GoodR (putK 65535 K d s).2
  | [], d, s, _, _, _, h, _ => h
  | p :: K, d, s, hw, hc, fd, hg, hM => by
    have hskM : sizeK (p :: K) d = sizeP p d + sizeK K d := by
      show (List.map (fun q => sizeP q d) (p :: K)).sum = _
      rw [List.map_cons, List.sum_cons]
      rfl
    rw [hskM] at hM
    have hM1 : s.l.length + sizeP p d ≤ 65535 := by omega
    have hp := part_backX (hw p List.mem_cons_self) hg (hc p List.mem_cons_self) fd hM1
    rw [putK_two hp.ok]
    obtain ⟨ok, good, ⟨y, hy, hy1, hy2, hy3⟩, back⟩ := hp
    have hlen := congrArg List.length hy
    rw [List.length_append] at hlen
    exact kind_goodX K d _ (fun q hq => hw q (List.mem_cons_of_mem _ hq)) (fun q hq => hc q (List.mem_cons_of_mem _ hq)) fd good (by omega)
theorem data_backX {t : Int} {d : MD} {s : PS} (ht : isT t = true) (h0 : allK (kindK t) d = 0) (fd : Fit64 d) (hg : GoodR s) (hz : s.l.length + sizeK (kindK t) d ≤ 65535) : DatB t d s (putD 65535 t d s) := by
  obtain ⟨hdrop, hchk, h65⟩ := all_facts h0
  have hput : putD 65535 t d s = putK 65535 (kindK t) d s := by
    unfold putD
    rw [ht, if_pos rfl, if_neg (by simp [h0])]
  have hcopy := copy_kind hdrop
  rw [hput]
  have hsz := size_some ht h0
  rcases type_cases t with ⟨hsome, h16, hw, hl3⟩ | ⟨h16, hk⟩ | ⟨hnone, hk⟩
  · obtain ⟨ok, ⟨y, hy, hyl, hyn⟩, back⟩ := kind_backX (kindK t) d s hw hchk fd hg hz
    have hgd := kind_goodX (kindK t) d s hw hchk fd hg hz
    obtain ⟨q, hq⟩ : ∃ q, putK 65535 (kindK t) d s = q := ⟨_, rfl⟩
    rw [hq] at ok hy back hgd ⊢
    have hlen := congrArg List.length hy
    rw [List.length_append] at hlen
    refine ⟨ok, hgd, ⟨y, hy, by rw [hsz]; exact hyl⟩, fun z => ?_⟩
    have b1 := back z q.2.l.length md0 (Nat.le_refl _) (by rw [List.length_append]; omega)
    rw [hcopy] at b1
    rw [readD_in ht (by omega) (by rw [List.length_append]; omega), b1, if_neg (by simp), if_neg]
    simp [h0]
  · rw [hk] at hchk hz h65 ⊢
    have ta := txt_all (hchk _ List.mem_cons_self)
    have hsT : sizeK [.txt] d = sizeT d.L := by simp [sizeK, sizeP]
    have hne : d.L ≠ [] := fun h => by have := hchk .txt List.mem_cons_self; simp [chkP, h] at this
    have pa := texts_put (M := 65535) d.L s hg.good.f ta (by omega)
    have pk : putK 65535 [.txt] d s = (0, { s with l := s.l ++ txB d.L }) := by
      rw [putK_two (show (putP 65535 .txt d s).1 = 0 from by show (textsS 65535 d.L s).1 = 0; rw [pa])]
      show (0, (textsS 65535 d.L s).2) = _
      rw [pa]
    rw [pk]
    have hl := txB_length d.L
    refine ⟨rfl, hg.app (by omega), ⟨_, rfl, (by rw [hsz, hk, hsT, hl]; exact Nat.le_refl _)⟩, fun z => ?_⟩
    simp only
    rw [readD_in ht (by simp) (by simp), hk]
    have hR : (s.l ++ txB d.L ++ z).take (s.l ++ txB d.L).length = s.l ++ txB d.L := List.take_left' rfl
    rw [hR]
    have hrd := texts_rd d.L s.l [] ((s.l ++ txB d.L).length + 1 - s.l.length) ta (fun _ => hne) (by rw [List.length_append]; omega)
    have hrk : rdK (s.l ++ txB d.L ++ z) (s.l ++ txB d.L) [.txt] md0 s.l.length = ⟨0, (s.l ++ txB d.L).length, d⟩ := by
      have e1 : rdP (s.l ++ txB d.L ++ z) (s.l ++ txB d.L) .txt md0 s.l.length = ⟨0, (s.l ++ txB d.L).length, d⟩ := by
        simp only [rdP]
        have hm0 : md0.L = [] := rfl
        rw [hm0, hrd]
        rw [hk] at hcopy
        have hc' : { md0 with L := d.L } = d := hcopy
        simp only [List.nil_append]
        congr 1
      rw [rdK, e1]
      simp [rdK]
    rw [hrk, if_neg (by simp), if_neg]
    rw [hk] at h0
    simp [h0]
  · rw [hk] at hchk hz h65 ⊢
    have hsT : sizeK [.raw] d = d.r.size := by simp [sizeK, sizeP]
    have pa := put0 (M := 65535) (s := s) (x := bs d.r) hg.good.f (by rw [bs_length]; omega)
    have pk : putK 65535 [.raw] d s = (0, { s with l := s.l ++ bs d.r }) := by
      rw [putK_two (show (putP 65535 .raw d s).1 = 0 from by show (putS 65535 s (bs d.r)).1 = 0; rw [pa])]
      show (0, (putS 65535 s (bs d.r)).2) = _
      rw [pa]
    rw [pk]
    have h0' := h0
    rw [hk] at hcopy h0'
    have hc' : { md0 with r := d.r } = d := hcopy
    refine ⟨rfl, hg.app (by rw [bs_length]; omega), ⟨_, rfl, (by rw [hsz, hk, hsT, bs_length]; exact Nat.le_refl _)⟩, fun z => ?_⟩
    simp only
    rw [readD_in ht (by simp) (by simp), hk]
    have hR : (s.l ++ bs d.r ++ z).take (s.l ++ bs d.r).length = s.l ++ bs d.r := List.take_left' rfl
    have hrk : rdK (s.l ++ bs d.r ++ z) (s.l ++ bs d.r) [.raw] md0 s.l.length = ⟨0, (s.l ++ bs d.r).length, d⟩ := by
      simp only [rdK, rdP, ne_eq, not_true_eq_false, if_false]
      rw [List.drop_left' rfl, mkb_bs, hc']
    rw [hR, hrk, if_neg (by simp), if_neg]
    simp [h0']
theorem quest_backX {q : MQ} {s : PS} (hg : GoodR s) (hc : checkQ q = 0) (hs : s.l.length + (sizeN (bs q.n) + 4) ≤ 65535) : QuB q s (putQ 65535 q s) := by
  obtain ⟨hn, ht, hcl⟩ := checkQ_zero hc
  obtain ⟨t1, t2⟩ := isT_yes ht
  obtain ⟨c1, c2⟩ := isT_yes hcl
  have hx := chkN_len hn
  have hr0 : refC s.f (checkQ q) = 0 := by rw [hg.good.f, hc]; rfl
  have hsz : sizeN (bs q.n) = (bs q.n).length + 1 := by unfold sizeN; rw [if_pos hn]
  obtain ⟨hg1, c, hru⟩ := nam_backX hg hn (by omega)
  obtain ⟨y1, e1, _, l1⟩ := (nameS_good (M := 65535) (x := bs q.n) hg.good hg.inv hn (by omega)).1.l
  obtain ⟨y1', e1', _, o1⟩ : ∃ y, (nameS 65535 s (bs q.n)).2.l = s.l ++ y ∧ True ∧ (nameS 65535 s (bs q.n)).2.o = s.o := by
    obtain ⟨y, a, b, _⟩ := sw_name 65535 (bs q.n) s s.l rfl
    exact ⟨y, a, trivial, b⟩
  obtain ⟨s1, hs1⟩ : ∃ x, (nameS 65535 s (bs q.n)).2 = x := ⟨_, rfl⟩
  rw [hs1] at hg1 hru e1 o1
  have hlen1 := congrArg List.length e1
  rw [List.length_append] at hlen1
  obtain ⟨qn, qt, qc⟩ := q
  simp only at *
  obtain ⟨tn, rfl⟩ := Int.eq_ofNat_of_zero_le t1
  obtain ⟨cn, rfl⟩ := Int.eq_ofNat_of_zero_le c1
  have p2 : numS 65535 s1 tn 2 = (0, { s1 with l := s1.l ++ octs tn 2 }) := numS_ok (n := 2) hg1.good.f (by decide) (by decide) (by omega) (by omega)
  have hg2 : GoodR { s1 with l := s1.l ++ octs tn 2 } := hg1.app (by rw [octs_length]; omega)
  have p3 : numS 65535 { s1 with l := s1.l ++ octs tn 2 } cn 2 = (0, { s1 with l := s1.l ++ octs tn 2 ++ octs cn 2 }) := numS_ok (n := 2) (s := { s1 with l := s1.l ++ octs tn 2 }) hg1.good.f (by decide) (by decide) (by omega) (by simp [octs_length]; omega)
  have hg3 : GoodR { s1 with l := s1.l ++ octs tn 2 ++ octs cn 2 } := GoodR.app (s := { s1 with l := s1.l ++ octs tn 2 }) hg2 (by simp [octs_length]; omega)
  have hput : putQ 65535 ⟨qn, tn, cn⟩ s = (0, { s1 with l := s1.l ++ octs tn 2 ++ octs cn 2 }) := by
    unfold putQ
    rw [if_neg (fun h => h hr0)]
    have e3 : putQ3 65535 ⟨qn, tn, cn⟩ s = { s1 with l := s1.l ++ octs tn 2 ++ octs cn 2 } := by
      unfold putQ3 putQ2 putQ1
      simp only [Int.toNat_natCast]
      rw [hs1, p2]
      simp only
      rw [p3]
    rw [e3]
    show (s1.f, _) = _
    rw [hg1.good.f]
  rw [hput]
  refine ⟨rfl, hg3, o1, ⟨y1 ++ octs tn 2 ++ octs cn 2, by simp [e1], by simp [octs_length]; omega⟩, fun z => ?_⟩
  simp only
  obtain ⟨T, hT⟩ : ∃ T, T = s1.l ++ octs tn 2 ++ octs cn 2 ++ z := ⟨_, rfl⟩
  rw [← hT]
  have hTl : T.length = s1.l.length + 4 + z.length := by rw [hT]; simp [octs_length]; omega
  have r0 : seekR T 0 (s.l.length : Nat) = (0, s.l.length) := seekR_some (by omega)
  have hru' : Ru T s.l.length s.l.length (bs qn) s1.l.length c := by
    have h := hru.app (octs tn 2 ++ octs cn 2 ++ z)
    rwa [show s1.l ++ (octs tn 2 ++ octs cn 2 ++ z) = T by rw [hT]; simp] at h
  obtain ⟨u1, u2, u3⟩ := ru_read hru' hx (by omega) (by omega)
  have r1 : rdNm T s.l.length = ⟨bs qn, 0, s1.l.length⟩ := by
    unfold rdNm
    rw [u1, u2, u3, if_neg (fun h => h rfl), seekR_some (by omega), if_neg (fun h => h rfl)]
  have r2 : numR T s1.l.length 2 = ⟨octs tn 2, 0, s1.l.length + 2⟩ := by
    have h := numR_octs s1.l (octs cn 2 ++ z) tn 2 (by decide) (by decide)
    rwa [show s1.l ++ octs tn 2 ++ (octs cn 2 ++ z) = T by rw [hT]; simp] at h
  have r3 : numR T (s1.l.length + 2) 2 = ⟨octs cn 2, 0, s1.l.length + 2 + 2⟩ := by
    have h := numR_octs (s1.l ++ octs tn 2) z cn 2 (by decide) (by decide)
    rw [List.length_append, octs_length] at h
    rwa [← hT] at h
  have hd : rdQ T (s.l.length : Nat) = ⟨0, s1.l.length + 2 + 2, ⟨mkb (bs qn), (num (octs tn 2) : Nat), (num (octs cn 2) : Nat)⟩⟩ := by
    unfold rdQ
    rw [r0, r1]
    simp only [ne_eq, not_true_eq_false, if_false]
    rw [r2]
    simp only [not_true_eq_false, if_false]
    rw [r3]
    simp only [not_true_eq_false, if_false]
  rw [hd, mkb_bs, num_octs 2 tn (by omega), num_octs 2 cn (by omega)]
  congr 1
  simp [octs_length]
theorem rec_backX {r : MR} {s : PS} (hg : GoodR s) (hc : checkR r = 0) (fd : Fit64 r.d) (hx : r.x < 4294967296) (hs : s.l.length + (sizeN (bs r.n) + 10 + sizeK (kindK r.t) r.d) ≤ 65535) : ReB r s (putR 65535 r s) := by
  obtain ⟨hcq, hcd⟩ := checkR_zero hc
  have hr0 : refC s.f (checkR r) = 0 := by rw [hg.good.f, hc]; rfl
  have hput : putR 65535 r s = ((putR5 65535 r s).f, putR5 65535 r s) := by unfold putR; rw [if_neg (fun h => h hr0)]
  rw [hput]
  obtain ⟨_, ht, _⟩ := checkQ_zero hcq
  replace ht : isT r.t = true := ht
  have hall : allK (kindK r.t) r.d = 0 := by
    have ht' : isT r.t = true := ht
    unfold checkD at hcd
    rwa [if_pos ht'] at hcd
  obtain ⟨_, qg, qo, ⟨yq, el1, ll1⟩, qb⟩ := quest_backX hg hcq (by have e : sizeN (bs r.q.n) = sizeN (bs r.n) := rfl; omega)
  have e1 : putR1 65535 r s = (putQ 65535 r.q s).2 := rfl
  obtain ⟨s1, hs1⟩ : ∃ x, (putQ 65535 r.q s).2 = x := ⟨_, rfl⟩
  rw [hs1] at qg qo el1 qb e1
  have hn255 := (show sizeN (bs r.q.n) ≤ 255 by
    unfold sizeN
    split
    · rename_i h; have := chkN_len h; omega
    · omega)
  have hqn : sizeN (bs r.q.n) = sizeN (bs r.n) := rfl
  have hlen1 := congrArg List.length el1
  rw [List.length_append] at hlen1
  have p2 : numS 65535 s1 r.x 4 = (0, { s1 with l := s1.l ++ octs r.x 4 }) := numS_ok (n := 4) qg.good.f (by decide) (by decide) hx (by omega)
  have hg2 : GoodR { s1 with l := s1.l ++ octs r.x 4 } := qg.app (by rw [octs_length]; omega)
  have e2 : putR2 65535 r s = { s1 with l := s1.l ++ octs r.x 4 } := by unfold putR2; rw [e1, p2]
  have hl2 : (s1.l ++ octs r.x 4).length = s1.l.length + 4 := by rw [List.length_append, octs_length]
  have p3 : numS 65535 { s1 with l := s1.l ++ octs r.x 4 } 0 2 = (0, { s1 with l := s1.l ++ octs r.x 4 ++ octs 0 2 }) := numS_ok (n := 2) (s := { s1 with l := s1.l ++ octs r.x 4 }) qg.good.f (by decide) (by decide) (by decide) (by show (s1.l ++ octs r.x 4).length + 2 ≤ _; omega)
  have e3 : putR3 65535 r s = ((s1.l ++ octs r.x 4).length, 0, { s1 with l := s1.l ++ octs r.x 4 ++ octs 0 2, o := s1.o ++ [(s1.l ++ octs r.x 4).length] }) := by
    unfold putR3 beginS
    rw [e2, p3]
    rfl
  obtain ⟨s3, hs3⟩ : ∃ x : PS, x = { s1 with l := s1.l ++ octs r.x 4 ++ octs 0 2, o := s1.o ++ [(s1.l ++ octs r.x 4).length] } := ⟨_, rfl⟩
  rw [← hs3] at e3
  have hl3 : s3.l = s1.l ++ octs r.x 4 ++ octs 0 2 := by rw [hs3]
  have ho3 : s3.o = s1.o ++ [(s1.l ++ octs r.x 4).length] := by rw [hs3]
  have hpd : ∀ u : PS, putD 65535 r.t r.d u = putK 65535 (kindK r.t) r.d u := fun u => by
    unfold putD
    rw [ht, if_pos rfl, if_neg (by simp [hall])]
  have e4 : putR4 65535 r s = (putK 65535 (kindK r.t) r.d s3).2 := by unfold putR4; rw [e3, hpd]
  obtain ⟨y, hy, hyo, _⟩ := sw_putK 65535 r.d (kindK r.t) s3 s3.l rfl
  simp only at hy hyo
  obtain ⟨l', hl'⟩ : ∃ x, x = s1.l ++ octs r.x 4 ++ octs y.length 2 := ⟨_, rfl⟩
  have hll : l'.length = s1.l.length + 6 := by rw [hl', List.length_append, hl2, octs_length]
  have hll3 : s3.l.length = s1.l.length + 6 := by rw [hl3, List.length_append, hl2, octs_length]
  obtain ⟨y', hy', _, hv⟩ := sw_putK 65535 r.d (kindK r.t) s3 l' (by rw [hll, hll3])
  simp only at hy' hv
  have hyy : y' = y := List.append_cancel_left (hy'.symm.trans hy)
  subst hyy
  obtain ⟨p4, hp4⟩ : ∃ x, putK 65535 (kindK r.t) r.d s3 = x := ⟨_, rfl⟩
  rw [hp4] at e4 hy hyo hv
  have hbeg : ∀ a ∈ s3.o, a + 2 ≤ s1.l.length + 6 := fun a ha => by
    rw [ho3, List.mem_append, List.mem_singleton] at ha
    rcases ha with h | h
    · have := qg.inv.begun a h; omega
    · rw [h, hl2]; omega
  have hol : s3.o.length ≤ s1.l.length + 6 := by rw [ho3, List.length_append, List.length_singleton]; have := qg.inv.olen; omega
  have hgl : GoodR { s1 with l := l' } := by
    have h := GoodR.app (s := { s1 with l := s1.l ++ octs r.x 4 }) hg2 (y := octs y'.length 2) (by simp [octs_length]; omega)
    rw [hl']
    exact h
  have hg3 : GoodR (lay s3 l') := by
    have h := GoodR.begun hgl s3.o (by show ∀ a ∈ s3.o, a + 2 ≤ l'.length; rw [hll]; exact hbeg) (by show _ ≤ l'.length; rw [hll]; exact hol)
    have e : lay s3 l' = { s1 with l := l', o := s3.o } := by rw [hs3]; rfl
    rw [e]
    exact h
  have hf5 : (putR5 65535 r s).f = p4.2.f := by unfold putR5; rw [endS_f, e4]
  have hz : (lay s3 l').l.length + sizeK (kindK r.t) r.d ≤ 65535 := by
    show l'.length + _ ≤ _
    rw [hll]
    omega
  obtain ⟨dok, dg, ⟨yd, dl, dll⟩, db⟩ := data_backX (s := lay s3 l') ht hall fd hg3 hz
  rw [hpd, hv] at dok dg dl db
  simp only at dok dl db
  have hyd : yd = y' := List.append_cancel_left (show l' ++ yd = l' ++ y' from dl.symm)
  subst hyd
  have hL : yd.length < 65536 := by
    have h1 := size_some ht hall
    have h2 := (all_facts hall).2.2
    omega
  have hpf : p4.2.f = 0 := dg.good.f
  have h4l : p4.2.l = s1.l ++ octs r.x 4 ++ octs 0 2 ++ yd := by rw [hy, hl3]
  have h4o : p4.2.o = s1.o ++ [(s1.l ++ octs r.x 4).length] := by rw [hyo, ho3]
  have e5 : putR5 65535 r s = { lay p4.2 (l' ++ yd) with o := s1.o } := by
    unfold putR5
    rw [e4, e3]
    unfold endS
    rw [if_neg (by simp [hpf]), h4o, List.getLast?_append]
    simp only [List.getLast?_singleton, Option.some_or, if_true]
    rw [List.dropLast_concat, h4l]
    have hlen : (s1.l ++ octs r.x 4 ++ octs 0 2 ++ yd).length - (s1.l ++ octs r.x 4).length - 2 = yd.length := by simp only [List.length_append, octs_length]; omega
    have hov : over (s1.l ++ octs r.x 4 ++ octs 0 2 ++ yd) (s1.l ++ octs r.x 4).length (octs yd.length 2) = l' ++ yd := by
      unfold over
      rw [List.append_assoc (s1.l ++ octs r.x 4), List.take_left' rfl, octs_length, ← List.drop_drop, List.drop_left' rfl, List.drop_left' (octs_length 2 0), hl']
      simp
    rw [hlen, hov]
    rfl
  have hg5 : GoodR { lay p4.2 (l' ++ yd) with o := s1.o } := GoodR.begun dg s1.o (fun a ha => by have := qg.inv.begun a ha; show _ ≤ (l' ++ yd).length; rw [List.length_append]; omega) (by have := qg.inv.olen; show _ ≤ (l' ++ yd).length; rw [List.length_append]; omega)
  rw [e5]
  refine ⟨hpf, hg5, qo, ⟨yq ++ octs r.x 4 ++ octs yd.length 2 ++ yd, ?_, ?_⟩, fun z => ?_⟩
  · show l' ++ yd = _
    rw [hl', el1]
    simp
  · unfold sizeR
    rw [if_neg (fun h => h hc)]
    simp only [List.length_append, octs_length]
    have : sizeN (bs r.q.n) = sizeN (bs r.n) := rfl
    omega
  · show rdR (l' ++ yd ++ z) _ = ⟨0, (l' ++ yd).length, r⟩
    obtain ⟨T, hT⟩ : ∃ T, T = l' ++ yd ++ z := ⟨_, rfl⟩
    have hT' : T = s1.l ++ octs r.x 4 ++ octs yd.length 2 ++ yd ++ z := by rw [hT, hl']
    have b0 := qb (octs r.x 4 ++ octs yd.length 2 ++ yd ++ z)
    rw [show s1.l ++ (octs r.x 4 ++ octs yd.length 2 ++ yd ++ z) = T by rw [hT']; simp] at b0
    have r4 : numR T s1.l.length 4 = ⟨octs r.x 4, 0, s1.l.length + 4⟩ := by
      have h := numR_octs s1.l (octs yd.length 2 ++ yd ++ z) r.x 4 (by decide) (by decide)
      rwa [show s1.l ++ octs r.x 4 ++ (octs yd.length 2 ++ yd ++ z) = T by rw [hT']; simp] at h
    have r5 : numR T (s1.l.length + 4) 2 = ⟨octs yd.length 2, 0, s1.l.length + 4 + 2⟩ := by
      have h := numR_octs (s1.l ++ octs r.x 4) (yd ++ z) yd.length 2 (by decide) (by decide)
      rw [hl2] at h
      rwa [show s1.l ++ octs r.x 4 ++ octs yd.length 2 ++ (yd ++ z) = T by rw [hT']; simp] at h
    have r6 : takR T (s1.l.length + 4 + 2) (yd.length : Nat) = ⟨yd, 0, s1.l.length + 4 + 2 + yd.length⟩ := by
      have h := takR_whole l' yd z
      rw [hll] at h
      rwa [← hT] at h
    have r7 : readD T (s1.l.length + 4 + 2 : Nat) (s1.l.length + 4 + 2 + yd.length : Nat) r.t = (0, r.d) := by
      have h := db z
      rw [show (lay p4.2 (l' ++ yd)).l = l' ++ yd from rfl, show (lay s3 l').l = l' from rfl, ← hT, List.length_append, hll] at h
      exact h
    rw [← hT]
    unfold rdR
    rw [b0]
    simp only [ne_eq, not_true_eq_false, if_false]
    unfold rdTail
    rw [r4]
    simp only [not_true_eq_false, ne_eq, if_false]
    rw [r5]
    simp only [not_true_eq_false, if_false]
    rw [num_octs 2 yd.length (by omega), r6]
    simp only [not_true_eq_false, if_false]
    rw [show r.q.t = r.t from rfl, r7]
    simp only [not_true_eq_false, if_false]
    rw [num_octs 4 r.x (by omega), List.length_append, hll]
    rfl
theorem sizeR_two {r : MR} (hc : checkR r = 0) : sizeR r = sizeN (bs r.n) + 10 + sizeK (kindK r.t) r.d := by
  obtain ⟨hcq, hcd⟩ := checkR_zero hc
  have ht : isT r.t = true := (checkQ_zero hcq).2.1
  have hall : allK (kindK r.t) r.d = 0 := by
    unfold checkD at hcd
    rwa [if_pos ht] at hcd
  unfold sizeR
  rw [if_neg (fun h => h hc), size_some ht hall]
theorem qs_backX : ∀ (l : List MQ) (s : PS), GoodR s → (∀ x ∈ l, checkQ x = 0) → s.l.length + sumL szQ l ≤ 65535 →
    GoodR (putQs 65535 l s) ∧ (∃ y, (putQs 65535 l s).l = s.l ++ y ∧ y.length ≤ sumL szQ l) ∧ ∃ E, Ch (RQs (putQs 65535 l s).l) l E s.l.length (putQs 65535 l s).l.length
  | [], s, hg, _, _ => ⟨hg, ⟨[], by simp [putQs], Nat.le_refl _⟩, [], rfl⟩
  | q :: l, s, hg, hc, hs => by
    have hs' : s.l.length + (szQ q + sumL szQ l) ≤ 65535 := hs
    have hsq : szQ q = sizeN (bs q.n) + 4 := rfl
    obtain ⟨ok, good, o, ⟨y, hy, hl⟩, back⟩ := quest_backX hg (hc q List.mem_cons_self) (by omega)
    have hlen := congrArg List.length hy
    rw [List.length_append] at hlen
    obtain ⟨g2, ⟨y2, hy2, hl2⟩, E, hE⟩ := qs_backX l (putQ 65535 q s).2 good (fun x hx => hc x (List.mem_cons_of_mem _ hx)) (by omega)
    refine ⟨g2, ⟨y ++ y2, ?_, ?_⟩, _ :: E, ?_, hE⟩
    · show (putQs 65535 l (putQ 65535 q s).2).l = _
      rw [hy2, hy, List.append_assoc]
    · rw [List.length_append]
      show _ ≤ szQ q + sumL szQ l
      omega
    · show RQs (putQs 65535 l (putQ 65535 q s).2).l _ _ _
      rw [hy2]
      exact RQs.app back
theorem rs_backX : ∀ (l : List RV) (s : PS), GoodR s → (∀ x ∈ l, checkR x.1 = 0 ∧ Fit64 x.1.d ∧ x.1.x < 4294967296) → s.l.length + sumL szRV l ≤ 65535 →
    (putRs 65535 l s).1 = l.length ∧ GoodR (putRs 65535 l s).2 ∧ (∃ y, (putRs 65535 l s).2.l = s.l ++ y ∧ y.length ≤ sumL szRV l) ∧ ∃ E, Ch (RRs (putRs 65535 l s).2.l) l E s.l.length (putRs 65535 l s).2.l.length
  | [], s, hg, _, _ => ⟨rfl, hg, ⟨[], by simp [putRs], Nat.le_refl _⟩, [], rfl⟩
  | x :: l, s, hg, hc, hs => by
    obtain ⟨c1, c2, c3⟩ := hc x List.mem_cons_self
    have hs' : s.l.length + (sizeR x.1 + sumL szRV l) ≤ 65535 := hs
    have hz := sizeR_two c1
    obtain ⟨ok, good, o, ⟨y, hy, hl⟩, back⟩ := rec_backX hg c1 c2 c3 (by omega)
    have hlen := congrArg List.length hy
    rw [List.length_append] at hlen
    obtain ⟨g1, g2, ⟨y2, hy2, hl2⟩, E, hE⟩ := rs_backX l (putR 65535 x.1 s).2 good (fun z hz => hc z (List.mem_cons_of_mem _ hz)) (by omega)
    have e : putRs 65535 (x :: l) s = ((putRs 65535 l (putR 65535 x.1 s).2).1 + 1, (putRs 65535 l (putR 65535 x.1 s).2).2) := by rw [putRs, if_pos ok]
    rw [e]
    refine ⟨by rw [List.length_cons]; show _ + 1 = _; rw [g1], g2, ⟨y ++ y2, ?_, ?_⟩, _ :: E, ?_, hE⟩
    · show (putRs 65535 l (putR 65535 x.1 s).2).2.l = _
      rw [hy2, hy, List.append_assoc]
    · rw [List.length_append]
      show _ ≤ szRV x + sumL szRV l
      have : szRV x = sizeR x.1 := rfl
      omega
    · show RRs (putRs 65535 l (putR 65535 x.1 s).2).2.l _ _ _
      rw [hy2]
      exact RRs.app (r := x) back
/-- What a message comes to that is put in just the room that it takes. -/
structure MsgX (m : MM) (s : PS) : Prop where
  f : s.f = 0
  few : s.l.length ≤ 65535
  pre : ∃ y, s.l = ocH m.h ++ y
  ch : ∃ EQ e0 EA e1 EU e2 EM, Ch (RQs s.l) m.q EQ 12 e0 ∧ Ch (RRs s.l) m.a EA e0 e1 ∧ Ch (RRs s.l) m.u EU e1 e2 ∧ Ch (RRs s.l) m.m EM e2 s.l.length
theorem msg_backX {m : MM} (ok : OkM m) (lt : ∀ x ∈ m.recs, Fit64 x.1.d ∧ x.1.x < 4294967296) (hid : m.h.id < 65536) (hsz : sizeM m ≤ 65535) : MsgX m (putMs 65535 m).2 := by
  have hsz' : 12 + sumL szQ m.q + sumL szRV m.recs ≤ 65535 := by
    unfold sizeM at hsz
    rw [if_neg (fun h => h (checkM_zero.2 ok))] at hsz
    unfold MM.recs
    rw [sumL_app, sumL_app]
    omega
  have hh : putHd 65535 m.h = { ps0 with l := ocH m.h } := by
    unfold putHd
    rw [put_room (s := ps0) rfl (by show 0 + _ ≤ _; rw [ocH_length]; omega)]
    rfl
  have hg0 : GoodR (putHd 65535 m.h) := by
    rw [hh]
    have := goodR0.app (y := ocH m.h) (by show 0 + _ ≤ _; rw [ocH_length]; omega)
    exact this
  have hl0 : (putHd 65535 m.h).l = ocH m.h := by rw [hh]
  have hl12 : (putHd 65535 m.h).l.length = 12 := by rw [hl0, ocH_length]
  obtain ⟨g1, ⟨y1, hy1, z1⟩, E1, hE1⟩ := qs_backX m.q _ hg0 ok.q (by omega)
  have hlen1 := congrArg List.length hy1
  rw [List.length_append, hl12] at hlen1
  obtain ⟨h1, g2, ⟨y2, hy2, z2⟩, E2, hE2⟩ := rs_backX m.recs _ g1 (fun x hx => ⟨ok.r x hx, (lt x hx).1, (lt x hx).2⟩) (by omega)
  have hlen2 := congrArg List.length hy2
  rw [List.length_append] at hlen2
  have e : putMs 65535 m = putRs 65535 m.recs (putQs 65535 m.q (putHd 65535 m.h)) := rfl
  rw [← e] at h1 g2 hy2 hE2 hlen2
  refine ⟨g2.good.f, by omega, ⟨y1 ++ y2, by rw [hy2, hy1, hl0, List.append_assoc]⟩, ?_⟩
  rw [hl12] at hE1
  have hQ : Ch (RQs (putMs 65535 m).2.l) m.q E1 12 (putQs 65535 m.q (putHd 65535 m.h)).l.length := by
    rw [hy2]
    exact hE1.mono fun _ _ _ h => h.app
  unfold MM.recs at hE2
  obtain ⟨E3, b, EM, h12, hM⟩ := hE2.split
  obtain ⟨EA, a, EU, hA, hU⟩ := h12.split
  exact ⟨E1, _, EA, _, EU, _, EM, hQ, hA, hU, hM⟩
structure TxX (m : MM) (T : List UInt8) : Prop where
  err : rdErr T = 0
  same : ∀ a : MM, RdOk T a → sameM m a = true
theorem tx_backX {m : MM} (ok : OkM m) (hid : m.h.id < 65536) {s : PS} (b : MsgX m s) : TxX m s.l := by
  obtain ⟨y, hy⟩ := b.pre
  obtain ⟨p1, p2⟩ := put_read ok.may hid y
  rw [← hy] at p1 p2
  obtain ⟨EQ, e0, EA, e1, EU, e2, EM, hq, ha, hu, hm⟩ := b.ch
  have hfew := b.few
  have c0 : m.h.n0.toNat = m.q.length := by rw [ok.n0]; rfl
  have c1 : cnR m.h 0 = m.a.length := by show m.h.n1.toNat = _; rw [ok.n1]; rfl
  have c2 : cnR m.h 1 = m.u.length := by show m.h.n2.toNat = _; rw [ok.n2]; rfl
  have c3 : cnR m.h 2 = m.m.length := by show m.h.n3.toNat = _; rw [ok.n3]; rfl
  have s0 : rdS s.l m.h 0 = (0, e0) := by rw [rdS, c0, qs_rd hq]
  have s1 : rdS s.l m.h 1 = (0, e1) := by rw [rdS, s0, if_pos rfl, c1]; simp only [rows_rd ha]
  have s2 : rdS s.l m.h 2 = (0, e2) := by rw [rdS, s1, if_pos rfl, c2]; simp only [rows_rd hu]
  have s3 : rdS s.l m.h 3 = (0, s.l.length) := by rw [rdS, s2, if_pos rfl, c3]; simp only [rows_rd hm]
  refine ⟨?_, fun a h => ?_⟩
  · unfold rdErr
    rw [if_neg (by omega), if_neg (fun k => k p1), p2, s3]
    simp
  · obtain ⟨r1, r2, r3, r4, r5⟩ := h
    rw [p2] at r1 r2 r3 r4 r5
    unfold rdQl at r2
    unfold rdL at r3 r4 r5
    rw [c0, qs_rd hq] at r2
    rw [s0, c1] at r3
    rw [s1, c2] at r4
    rw [s2, c3] at r5
    simp only [rows_rd ha] at r3
    simp only [rows_rd hu] at r4
    simp only [rows_rd hm] at r5
    unfold sameM
    rw [decide_eq_true r1.symm, r2, eqL_refl sameQ_refl, eqL_map r3.symm, eqL_map r4.symm, eqL_map r5.symm]
    rfl
end Go.Proofs.YtadeflehdfmilaaGreat
