/-
  Reverse names and texts of eight groups read back: mathematics. Conditions: as each theorem names them. Nothing of any program is named here.
-/
import Derived.Test.YtjadghmanpkgoaaGreatDoorAdMth
import Derived.Test.YtjadghmanpkgoaaGreatDoorAdEach
namespace Go.Proofs.YtjadghmanpkgoaaGreatDoor
open Go.RowKit
set_option linter.unusedVariables false

/-! ### Eight groups, however they are written -/
theorem read_parts {xs : List (List UInt8)} {gs : List Nat} (hl : xs.length = 8) (h : ∀ x ∈ xs, x ≠ [] ∧ (58 : UInt8) ∉ x ∧ (46 : UInt8) ∉ x) (he : eachO (hexO 4) xs = some gs) : rdA (Lib.join xs [58]) = (newerA 65536 gs, 0) := by
  have hg : gs.length = 8 := (eachO_len he).trans hl
  have h46 : (46 : UInt8) ∉ Lib.join xs [58] := by
    intro hm
    rcases join_mem hm with ⟨e, _⟩ | ⟨x, hx, hd⟩
    · cases e
    · exact (h x hx).2.2 hd
  have h58 : Lib.contains (Lib.join xs [58]) [58] = true := by
    apply has_in
    rcases xs with _ | ⟨x, _ | ⟨y, r⟩⟩
    · cases hl
    · cases hl
    · rw [join2]
      simp
  have hn : newO (Lib.join xs [58]) = some (newerA 65536 gs) := by
    unfold newO
    rw [withO_free h46]
    simp only
    rw [cutG_none (nc_join fun x hx => ⟨(h x hx).1, (h x hx).2.1⟩)]
    simp only
    rw [splitA_join (join_ne (fun x hx => (h x hx).1) (fun e => by rw [e] at hl; cases hl)) (by omega) (fun x hx => (h x hx).2.1), he]
    simp only
    rw [show splitA [] 58 8 = [] by rfl]
    simp only [eachO, hg, List.length_nil]
    rw [if_neg (by simp)]
    simp [gapG, hg]
  unfold rdA readO
  rw [h58, if_pos rfl, hn]

/-- A group's four digits. -/
def four (v : Nat) : List UInt8 := [hexd (v / 4096), hexd (v / 256 % 16), hexd (v / 16 % 16), hexd (v % 16)]
theorem hex_lt {d : Nat} (h : d < 16) : hxv (hexd d) = some d ∧ hexd d ≠ 58 ∧ hexd d ≠ 46 := ⟨hxv_hexd ⟨d, h⟩, (hexd_ok ⟨d, h⟩).1, (hexd_ok ⟨d, h⟩).2⟩
theorem four_ok {v : Nat} (h : v < 65536) : four v ≠ [] ∧ (58 : UInt8) ∉ four v ∧ (46 : UInt8) ∉ four v := by
  have h1 := hex_lt (show v / 4096 < 16 by omega)
  have h2 := hex_lt (show v / 256 % 16 < 16 by omega)
  have h3 := hex_lt (show v / 16 % 16 < 16 by omega)
  have h4 := hex_lt (show v % 16 < 16 by omega)
  unfold four
  refine ⟨by simp, ?_, ?_⟩
  · intro hm
    simp only [List.mem_cons, List.not_mem_nil, or_false] at hm
    rcases hm with e | e | e | e
    · exact h1.2.1 e.symm
    · exact h2.2.1 e.symm
    · exact h3.2.1 e.symm
    · exact h4.2.1 e.symm
  · intro hm
    simp only [List.mem_cons, List.not_mem_nil, or_false] at hm
    rcases hm with e | e | e | e
    · exact h1.2.2 e.symm
    · exact h2.2.2 e.symm
    · exact h3.2.2 e.symm
    · exact h4.2.2 e.symm
theorem four_hx {v : Nat} (h : v < 65536) (acc : Nat) : hxF acc (four v) = some (acc * 65536 + v) := by
  have h1 := hex_lt (show v / 4096 < 16 by omega)
  have h2 := hex_lt (show v / 256 % 16 < 16 by omega)
  have h3 := hex_lt (show v / 16 % 16 < 16 by omega)
  have h4 := hex_lt (show v % 16 < 16 by omega)
  unfold four
  simp only [hxF, h1.1, h2.1, h3.1, h4.1]
  congr 1
  omega
theorem hexO_four {v : Nat} (h : v < 65536) : hexO 4 (four v) = some v := by
  unfold hexO
  rw [if_neg (by rintro (h' | h'); exact absurd h' (by show ¬ 4 < 4; decide); cases h'), four_hx h]
  simp
/-- Noughts ahead struck, one digit left. -/
def strip : List UInt8 → List UInt8
  | c :: d :: r => if c = 48 then strip (d :: r) else c :: d :: r
  | s => s
theorem hxv48 : hxv 48 = some 0 := by decide
theorem strip_hx : ∀ (s : List UInt8), hxF 0 (strip s) = hxF 0 s ∧ (s ≠ [] → strip s ≠ []) ∧ (strip s).length ≤ s.length ∧ ∀ c ∈ strip s, c ∈ s
  | [] => ⟨rfl, fun h => h, Nat.le_refl _, fun _ h => h⟩
  | [c] => ⟨rfl, fun h => h, Nat.le_refl _, fun _ h => h⟩
  | c :: d :: r => by
    obtain ⟨h1, h2, h3, h4⟩ := strip_hx (d :: r)
    unfold strip
    split
    · rename_i hc
      subst hc
      refine ⟨?_, fun _ => h2 (by simp), by rw [List.length_cons]; omega, fun x hx => List.mem_cons_of_mem _ (h4 x hx)⟩
      rw [h1]
      conv => rhs; unfold hxF
      rw [hxv48]
    · exact ⟨rfl, fun h => h, Nat.le_refl _, fun _ h => h⟩
theorem hexO_strip {v : Nat} (h : v < 65536) : hexO 4 (strip (four v)) = some v ∧ strip (four v) ≠ [] ∧ (58 : UInt8) ∉ strip (four v) ∧ (46 : UInt8) ∉ strip (four v) := by
  obtain ⟨h1, h2, h3, h4⟩ := strip_hx (four v)
  obtain ⟨k1, k2, k3⟩ := four_ok h
  refine ⟨?_, h2 k1, fun e => k2 (h4 _ e), fun e => k3 (h4 _ e)⟩
  unfold hexO
  rw [if_neg (by
    rintro (h' | h')
    · have : (four v).length = 4 := rfl
      omega
    · exact h2 k1 h'), h1, four_hx h]
  simp

/-! ### Nibbles -/
def nib (l : List UInt8) : List Nat := l.flatMap fun c => [c.toNat / 16, c.toNat % 16]
theorem digsT_nib (l : List UInt8) : digsT l = (nib l).map hexT := by
  unfold digsT nib
  rw [List.map_flatMap]
  rfl
theorem nib_lt (l : List UInt8) : ∀ v ∈ nib l, v < 16 := by
  intro v hv
  obtain ⟨c, _, h⟩ := List.mem_flatMap.1 hv
  have := c.toNat_lt
  simp only [List.mem_cons, List.not_mem_nil, or_false] at h
  omega
theorem nib_len : ∀ (l : List UInt8), (nib l).length = 2 * l.length
  | [] => rfl
  | c :: l => by
    have := nib_len l
    show (c.toNat / 16 :: c.toNat % 16 :: nib l).length = _
    simp only [List.length_cons, this]
    omega
theorem nib_app (a b : List UInt8) : nib (a ++ b) = nib a ++ nib b := by simp [nib]
theorem foldl_nib : ∀ (l : List UInt8) (v : Nat), (nib l).foldl (fun v p => v * 16 + p) v = l.foldl (fun v c => v * 256 + c.toNat) v
  | [], _ => rfl
  | c :: l, v => by
    show (c.toNat / 16 :: c.toNat % 16 :: nib l).foldl _ v = _
    simp only [List.foldl_cons]
    rw [foldl_nib l]
    congr 1
    omega
theorem jn_nib (l : List UInt8) : jn 16 (nib l) = num l := foldl_nib l 0
theorem newer_nibs {hi lo : Nat} (h1 : hi < 18446744073709551616) (h2 : lo < 18446744073709551616) : newerA 16 (nib (octA (true, hi, lo))) = (true, hi, lo) := by
  unfold newerA
  have e : nib (octA (true, hi, lo)) = nib (octs hi 8) ++ nib (octs lo 8) := nib_app _ _
  have l1 : (nib (octs hi 8)).length = 16 := by rw [nib_len, octs_length]
  have l2 : (nib (octs lo 8)).length = 16 := by rw [nib_len, octs_length]
  rw [e, List.length_append, l1, l2, List.take_left' l1, List.drop_left' l1, jn_nib, jn_nib, num_octs 8 hi h1, num_octs 8 lo h2]

/-! ### Reverse names -/
theorem chk_old {a : Ad} (hc : chkA a = 0) (h : a.1 = false) : a.2.1 = 0 ∧ a.2.2 < 4294967296 := by
  unfold chkA at hc
  rw [h] at hc
  simp only [true_and] at hc
  split at hc
  · cases hc
  · omega
theorem ofNum_read {a : Ad} (hc : chkA a = 0) (h : a.1 = false) : ofNumO (numsT (octA a)) = some a := by
  obtain ⟨six, hi, lo⟩ := a
  simp only at h
  subst h
  obtain ⟨h1, h2⟩ := chk_old hc rfl
  simp only at h1 h2
  subst h1
  unfold ofNumO
  rw [numsT_read]
  have e : octA (false, 0, lo) = octs lo 4 := rfl
  rw [e]
  simp only [nats, List.length_map, octs_length, if_true]
  exact congrArg some (elder_octs h2)
theorem ofDig_read {a : Ad} (hf : fitA a) (h : a.1 = true) : ofDigO (digsT (octA a)) = some a := by
  obtain ⟨six, hi, lo⟩ := a
  simp only at h
  subst h
  unfold ofDigO
  rw [digsT_nib, eachO_map (f := hexO 1) (g := hexT) (e := id) fun v hv => hexO1_hexT (nib_lt _ v hv), List.map_id]
  have hl : (nib (octA (true, hi, lo))).length = 32 := by
    rw [nib_len]
    show 2 * (octs hi 8 ++ octs lo 8).length = 32
    rw [List.length_append, octs_length, octs_length]
  simp only [hl, if_true]
  rw [newer_nibs hf.1 hf.2]
/-- The digits of an address' octets, as its reverse name has them, turned about. -/
def digA (a : Ad) : List (List UInt8) := if a.1 then digsT (octA a) else numsT (octA a)
def endA (a : Ad) : List UInt8 := if a.1 then ip6 else inaddr
theorem revL_eq (a : Ad) : revL a = (digA a).reverse ++ [endA a, arpa] := by
  unfold revL digA endA
  cases a.1 <;> rfl
theorem digA_len (a : Ad) : (digA a).length = if a.1 then 32 else 4 := by
  obtain ⟨six, hi, lo⟩ := a
  unfold digA
  cases six
  · show (numsT (octs lo 4)).length = 4
    unfold numsT
    rw [List.length_map, octs_length]
  · show (digsT (octs hi 8 ++ octs lo 8)).length = 32
    rw [digsT_nib, List.length_map, nib_len, List.length_append, octs_length, octs_length]
theorem fd_dec : ∀ c : Fin 256, 1 ≤ (decT c.val).length ∧ (decT c.val).length ≤ 3 ∧ fold (decT c.val) = decT c.val := by decide +kernel
theorem fd_hex : ∀ d : Fin 16, fold (hexT d.val) = hexT d.val ∧ (hexT d.val).length = 1 := by decide +kernel
theorem digA_ok (a : Ad) : ∀ x ∈ digA a, 1 ≤ x.length ∧ x.length ≤ (if a.1 then 1 else 3) ∧ fold x = x := by
  intro x hx
  unfold digA at hx
  cases h : a.1
  · rw [h] at hx
    rw [if_neg (by simp)] at hx
    obtain ⟨c, _, rfl⟩ := List.mem_map.1 hx
    exact fd_dec ⟨c.toNat, c.toNat_lt⟩
  · rw [h, if_pos rfl, digsT_nib] at hx
    obtain ⟨v, hv, rfl⟩ := List.mem_map.1 hx
    have := fd_hex ⟨v, nib_lt _ v hv⟩
    simp only at this
    exact ⟨by omega, by simp [this.2], this.1⟩
theorem enc_len_le (m : Nat) : ∀ (L : List (List UInt8)), (∀ x ∈ L, x.length ≤ m) → (enc L).length ≤ L.length * (m + 1)
  | [], _ => by simp [enc]
  | x :: L, h => by
    have h1 := enc_len_le m L fun y hy => h y (List.mem_cons_of_mem _ hy)
    have h2 := h x (List.mem_cons_self ..)
    rw [enc_cons, List.length_append, enc1_length, List.length_cons, Nat.succ_mul]
    omega
/-- A row of labels as a reverse name has them, whatever the last one. -/
theorem rev_name (a : Ad) (z : List UInt8) (hz : z.length = 4) : okN ((digA a).reverse ++ [endA a, z]) ∧ (enc ((digA a).reverse ++ [endA a, z])).length ≤ 73 := by
  have hd := digA_ok a
  have hl := digA_len a
  constructor
  · rw [okN_append]
    refine ⟨fun x hx => ?_, fun x hx => ?_⟩
    · have := hd x (List.mem_reverse.1 hx)
      refine ⟨this.1, ?_⟩
      have := this.2.1
      split at this <;> omega
    · simp only [List.mem_cons, List.not_mem_nil, or_false] at hx
      rcases hx with rfl | rfl
      · unfold endA
        split <;> exact ⟨by decide, by decide⟩
      · exact ⟨by omega, by omega⟩
  · rw [enc_append, List.length_append]
    have h1 := enc_len_le (if a.1 then 1 else 3) (digA a).reverse fun x hx => (hd x (List.mem_reverse.1 hx)).2.1
    rw [List.length_reverse, hl] at h1
    have h2 : (enc [endA a, z]).length = (endA a).length + 1 + (z.length + 1) := by rw [enc_cons, enc_one, List.length_append, enc1_length, enc1_length]
    have h3 : (endA a).length = if a.1 then 3 else 7 := by unfold endA; split <;> rfl
    rw [h2, h3, hz]
    cases h : a.1 <;> rw [h] at h1 <;> simp only [Bool.false_eq_true, if_false, if_true] at h1 ⊢ <;> omega
theorem mkN_ok {L : List (List UInt8)} (h : okN L) (hl : (enc L).length ≤ 254) : mkN L = (enc L, 0) := by
  unfold mkN named
  rw [if_pos (badL_ok.2 h), if_neg (by omega)]
theorem rev_mk (a : Ad) (z : List UInt8) (hz : z.length = 4) : mkN ((digA a).reverse ++ [endA a, z]) = (enc ((digA a).reverse ++ [endA a, z]), 0) :=
  mkN_ok (rev_name a z hz).1 (Nat.le_trans (rev_name a z hz).2 (by decide))
theorem revA_ok {a : Ad} (hc : chkA a = 0) : revA a = (enc ((digA a).reverse ++ [endA a, arpa]), 0) := by
  unfold revA
  rw [if_neg (by rw [hc]; decide), revL_eq, rev_mk a arpa rfl]
theorem revA_bad {a : Ad} (hc : chkA a ≠ 0) : revA a = ([], chkA a) := if_pos hc
theorem nlabs_encL {L : List (List UInt8)} (h : okN L) (hl : (enc L).length ≤ 254) : chkN (enc L) = 0 ∧ nlabs (enc L) = L ∧ nlabs (foldN (enc L)) = L.map fold := by
  have hc := chkN_enc h hl
  have hlb := labs_enc0 h
  refine ⟨hc, by rw [nlabs_yes hc, hlb], ?_⟩
  obtain ⟨_, h2, h3⟩ := foldN_facts hc
  have : foldN (enc L) = fold (enc L) := by unfold foldN; rw [if_pos hc]
  rw [this, nlabs_yes h2, h3, hlb]
theorem rev_labs (a : Ad) (z : List UInt8) (hz : z.length = 4) : chkN (enc ((digA a).reverse ++ [endA a, z])) = 0 ∧ nlabs (enc ((digA a).reverse ++ [endA a, z])) = (digA a).reverse ++ [endA a, z] ∧ nlabs (foldN (enc ((digA a).reverse ++ [endA a, z]))) = (digA a).reverse ++ [endA a, fold z] := by
  obtain ⟨h1, h2⟩ := rev_name a z hz
  obtain ⟨h3, h4, h5⟩ := nlabs_encL h1 (Nat.le_trans h2 (by decide))
  refine ⟨h3, h4, h5.trans ?_⟩
  rw [List.map_append, List.map_cons, List.map_cons, List.map_nil]
  have e1 : (digA a).reverse.map fold = (digA a).reverse := by
    conv => rhs; rw [← List.map_id (digA a).reverse]
    exact List.map_congr_left fun x hx => (digA_ok a x (List.mem_reverse.1 hx)).2.2
  have e2 : fold (endA a) = endA a := by unfold endA; split <;> rfl
  rw [e1, e2]
theorem back_rev {a : Ad} (hf : fitA a) (hc : chkA a = 0) (z : List UInt8) (hz : z.length = 4) (hzf : fold z = arpa) : bkA (enc ((digA a).reverse ++ [endA a, z])) = (a, true) := by
  unfold bkA
  rw [(rev_labs a z hz).2.2, hzf]
  have : backO ((digA a).reverse ++ [endA a, arpa]) = some a := by
    unfold backO
    rw [List.reverse_append, List.reverse_reverse]
    show (if arpa ≠ arpa then none else if endA a = inaddr then ofNumO (digA a) else if endA a = ip6 then ofDigO (digA a) else none) = some a
    rw [if_neg (by simp)]
    unfold endA digA
    cases h : a.1
    · simp only [Bool.false_eq_true, if_false, if_true]
      exact ofNum_read hc h
    · simp only [if_true]
      rw [if_neg (by decide)]
      exact ofDig_read hf h
  rw [this]
theorem rev_inj {a b : Ad} (ha : fitA a) (hb : fitA b) (ca : chkA a = 0) (cb : chkA b = 0) : (revA a).1 = (revA b).1 ↔ a = b := by
  constructor
  · intro h
    rw [revA_ok ca, revA_ok cb] at h
    have h1 := back_rev ha ca arpa rfl (by decide)
    have h2 := back_rev hb cb arpa rfl (by decide)
    simp only at h
    rw [h, h2] at h1
    exact (Prod.mk.inj h1).1.symm
  · rintro rfl; rfl
/-- A label less ahead: no reverse name. -/
theorem back_less (a : Ad) : bkA (enc ((digA a).reverse ++ [endA a, arpa]).tail) = (noA, false) := by
  have hl := digA_len a
  have hd := digA_ok a
  obtain ⟨x, r, hr⟩ : ∃ x r, (digA a).reverse = x :: r := by
    cases h : (digA a).reverse with
    | nil =>
      have := congrArg List.length h
      rw [List.length_reverse, hl] at this
      exfalso
      cases h : a.1 <;> rw [h] at this <;> simp at this
    | cons x r => exact ⟨x, r, rfl⟩
  have hrl : r.length + 1 = if a.1 then 32 else 4 := by rw [← hl, ← @List.length_reverse _ (digA a), hr]; rfl
  obtain ⟨h1, h2⟩ := rev_name a arpa rfl
  rw [hr] at h1 h2 ⊢
  rw [List.cons_append] at h1 h2 ⊢
  rw [List.tail_cons]
  have h1' : okN (r ++ [endA a, arpa]) := (okN_cons.1 h1).2
  have h2' : (enc (r ++ [endA a, arpa])).length ≤ 254 := by rw [enc_cons, List.length_append] at h2; omega
  have hm : (r ++ [endA a, arpa]).map fold = r ++ [endA a, arpa] := by
    conv => rhs; rw [← List.map_id (r ++ [endA a, arpa])]
    refine List.map_congr_left fun y hy => ?_
    rcases List.mem_append.1 hy with hy | hy
    · exact (hd y (List.mem_reverse.1 (by rw [hr]; exact List.mem_cons_of_mem _ hy))).2.2
    · simp only [List.mem_cons, List.not_mem_nil, or_false] at hy
      rcases hy with rfl | rfl
      · unfold endA; split <;> rfl
      · rfl
  unfold bkA
  rw [(nlabs_encL h1' h2').2.2, hm]
  have : backO (r ++ [endA a, arpa]) = none := by
    unfold backO
    rw [List.reverse_append]
    show (if arpa ≠ arpa then none else if endA a = inaddr then ofNumO r.reverse else if endA a = ip6 then ofDigO r.reverse else none) = none
    rw [if_neg (by simp)]
    unfold endA
    cases h : a.1
    · rw [h] at hrl
      simp only [Bool.false_eq_true, if_false, if_true] at hrl ⊢
      unfold ofNumO
      cases he : eachO numO r.reverse with
      | none => rfl
      | some l =>
        have := eachO_len he
        rw [List.length_reverse] at this
        simp only
        rw [if_neg (by omega)]
    · rw [h] at hrl
      simp only [if_true] at hrl ⊢
      rw [if_neg (by decide)]
      unfold ofDigO
      cases he : eachO (hexO 1) r.reverse with
      | none => rfl
      | some l =>
        have := eachO_len he
        rw [List.length_reverse] at this
        simp only
        rw [if_neg (by omega)]
  rw [this]
/-- An elder address' text is its labels turned about. -/
theorem old_text {a : Ad} (hc : chkA a = 0) (h : a.1 = false) : (txA a).1 = Lib.join (digA a) [46] := by
  unfold txA digA
  rw [if_neg (by rw [hc]; decide), h]
  rfl
end Go.Proofs.YtjadghmanpkgoaaGreatDoor
