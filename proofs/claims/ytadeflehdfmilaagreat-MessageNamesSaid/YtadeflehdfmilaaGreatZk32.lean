/-
  Data that were read are such as Go can have: mathematics. Condition: the octets are no longer than 2^40. Data are read: begin, readAll, Read. Condition: the octets are no longer than 2^40. Data are read: readAll, Read. Condition: the octets are no longer than 2^40. Data are read: Read. Condition: the octets are no longer than 2^40.
-/
import Derived.Test.YtadeflehdfmilaaGreatZk25
import Derived.Test.YtadeflehdfmilaaGreatZk1
import Derived.Test.YtadeflehdfmilaaGreatZk23
import Derived.Test.YtadeflehdfmilaaGreatZk31
namespace Go.Proofs.YtadeflehdfmilaaGreat
open Go.RowKit
set_option linter.unusedVariables false

/-- Bounds of data. -/
structure MFit (b : Nat) (d : MD) : Prop where
  n : d.n.size ≤ 1099511627776
  m : d.m.size ≤ 1099511627776
  r : d.r.size ≤ 1099511627776
  t : ∀ x ∈ d.L, x.size ≤ 1099511627776
  tl : d.L.length ≤ b
  hi : d.hi < 18446744073709551616
  lo : d.lo < 18446744073709551616
  v0 : d.v0 < 4294967296
  v1 : d.v1 < 4294967296
  v2 : d.v2 < 4294967296
  v3 : d.v3 < 4294967296
  v4 : d.v4 < 4294967296
theorem mfit0 : MFit 0 md0 := ⟨Nat.zero_le _, Nat.zero_le _, Nat.zero_le _, (fun x h => nomatch h), Nat.le_refl _, by decide, by decide, by decide, by decide, by decide, by decide, by decide⟩
theorem mkb_size (l : List UInt8) : (mkb l).size = l.length := by unfold mkb; rw [← bs_length, bs_mk]
theorem ofA_fit (s : List UInt8) : (ofA s).1.2.1 < 18446744073709551616 ∧ (ofA s).1.2.2 < 18446744073709551616 := by
  have hn : ∀ (l : List UInt8) (k : Nat), l.length ≤ k → jn 256 (nats l) < 256 ^ k := fun l k hl => by
    have h1 := jn_lt (m := 256) (l := nats l) fun c hc => by
      unfold nats at hc
      obtain ⟨x, _, rfl⟩ := List.mem_map.1 hc
      exact x.toNat_lt
    have h2 : (nats l).length ≤ k := by unfold nats; rw [List.length_map]; exact hl
    exact Nat.lt_of_lt_of_le h1 (Nat.pow_le_pow_right (by decide) h2)
  unfold ofA
  split
  · rename_i h
    exact ⟨(by decide : 0 < 18446744073709551616), Nat.lt_of_lt_of_le (hn s 4 (by omega)) (by decide)⟩
  · split
    · rename_i h
      have hl : (nats s).length = 16 := by unfold nats; rw [List.length_map]; exact h
      have e1 : (nats s).take 8 = nats (s.take 8) := by unfold nats; rw [List.map_take]
      have e2 : (nats s).drop 8 = nats (s.drop 8) := by unfold nats; rw [List.map_drop]
      unfold newerA
      rw [hl, show 16 / 2 = 8 from rfl, e1, e2]
      exact ⟨Nat.lt_of_lt_of_le (hn _ 8 (by rw [List.length_take]; omega)) (by decide), Nat.lt_of_lt_of_le (hn _ 8 (by rw [List.length_drop]; omega)) (by decide)⟩
    · exact ⟨by decide, by decide⟩
theorem numR_num_lt (l : List UInt8) (k : Nat) (n : Int) : num (numR l k n).s < 4294967296 := numR_lt l k n
theorem rdNums_lt (R : List UInt8) : ∀ (ns : List Nat) (k : Nat), ∀ v ∈ (rdNums R ns k).v, v < 4294967296
  | [], k, v, h => by cases h
  | n :: ns, k, v, h => by
    unfold rdNums at h
    split at h
    · rcases List.mem_cons.1 h with rfl | h
      · decide
      · exact rdNums_lt R ns k v h
    · split at h
      · cases h
      · rcases List.mem_cons.1 h with rfl | h
        · exact numR_num_lt ..
        · exact rdNums_lt R ns _ v h
theorem getD_lt {l : List Nat} (h : ∀ v ∈ l, v < 4294967296) (i : Nat) : l.getD i 0 < 4294967296 := by
  rw [List.getD_eq_getElem?_getD]
  by_cases hi : i < l.length
  · rw [List.getElem?_eq_getElem hi]
    exact h _ (List.getElem_mem hi)
  · rw [List.getElem?_eq_none (by omega)]
    decide
theorem takR_len' (l : List UInt8) (k : Nat) (n : Int) : (takR l k n).s.length ≤ l.length := by
  unfold takR
  split
  · simp
  · split
    · simp
    · simp; omega
theorem rdText_len (R : List UInt8) (k : Nat) : (rdText R k).s.length ≤ R.length := by
  unfold rdText
  split
  · simp
  · exact takR_len' ..
theorem rdName_len {T R : List UInt8} {ptd : Bool} {k : Nat} (hk : k ≤ T.length) : (rdName T R ptd k).s.length ≤ 254 := by
  have hr : ∀ r : Nat, r ≤ T.length → (readU T k r).l.length ≤ 254 := fun r hr => by
    unfold readU
    rw [if_neg (by omega)]
    exact (run_inv T _ _ (begU_inv (by omega) (by omega))).l
  cases ptd
  · unfold rdName
    simp only [Bool.false_eq_true, if_false]
    split
    · exact Nat.zero_le _
    · split
      · exact Nat.zero_le _
      · exact hr 0 (Nat.zero_le _)
  · unfold rdName
    simp only [if_true]
    split
    · exact Nat.zero_le _
    · split
      · exact Nat.zero_le _
      · exact hr k hk
/-- Texts: no more than octets. -/
theorem rdTexts_fit {R : List UInt8} : ∀ (f : Nat) (L : List ByteArray) (k : Nat), (∀ x ∈ L, x.size ≤ R.length) → (∀ x ∈ (rdTexts R f L k).d.L, x.size ≤ R.length) ∧ (rdTexts R f L k).d.L.length ≤ L.length + f
  | 0, L, k, h => ⟨h, Nat.le_refl _⟩
  | f + 1, L, k, h => by
    unfold rdTexts
    split
    · split
      · exact ⟨h, Nat.le_add_right _ _⟩
      · obtain ⟨h1, h2⟩ := rdTexts_fit (R := R) f (L ++ [mkb (rdText R k).s]) (rdText R k).k fun x hx => by
          rcases List.mem_append.1 hx with hx | hx
          · exact h x hx
          · rw [List.mem_singleton.1 hx, mkb_size]; exact rdText_len R k
        refine ⟨h1, ?_⟩
        rw [List.length_append] at h2
        simp only [List.length_cons, List.length_nil] at h2
        omega
    · exact ⟨h, Nat.le_add_right _ _⟩
theorem rdP_fit {T R : List UInt8} {n : Nat} {d : MD} {k : Nat} (p : Pt) (h : MFit n d) (hT : T.length ≤ 1099511627776) (hR : R.length ≤ T.length) (hk : k ≤ R.length) (hL : p = .txt → d.L = []) : MFit (n + (R.length + 1)) (rdP T R p d k).d := by
  have hn : d.L.length ≤ n + (R.length + 1) := Nat.le_trans h.tl (Nat.le_add_right _ _)
  cases p with
  | adr six =>
    obtain ⟨a1, a2⟩ := ofA_fit (takR R k (if six = true then 16 else 4)).s
    rw [show rdP T R (.adr six) d k = if (takR R k (if six then 16 else 4)).e ≠ 0 then ⟨(takR R k (if six then 16 else 4)).e, k, d⟩ else ⟨(ofA (takR R k (if six then 16 else 4)).s).2, (takR R k (if six then 16 else 4)).k, { d with six := (ofA (takR R k (if six then 16 else 4)).s).1.1, hi := (ofA (takR R k (if six then 16 else 4)).s).1.2.1, lo := (ofA (takR R k (if six then 16 else 4)).s).1.2.2 }⟩ from rfl]
    generalize takR R k (if six = true then 16 else 4) = q at a1 a2 ⊢
    split
    · exact { h with tl := hn }
    · exact { h with tl := hn, hi := a1, lo := a2 }
  | nam mail ptd =>
    have hl : (mkb (rdName T R ptd k).s).size ≤ 1099511627776 := by
      rw [mkb_size]
      have := rdName_len (T := T) (R := R) (ptd := ptd) (k := k) (by omega)
      omega
    cases mail
    · exact { h with tl := hn, n := hl }
    · exact { h with tl := hn, m := hl }
  | num a b c e f =>
    have hv := rdNums_lt R (ws5 a b c e f) k
    exact { h with tl := hn, v0 := getD_lt hv 0, v1 := getD_lt hv 1, v2 := getD_lt hv 2, v3 := getD_lt hv 3, v4 := getD_lt hv 4 }
  | txt =>
    have hd := hL rfl
    obtain ⟨t1, t2⟩ := rdTexts_fit (R := R) (R.length + 1 - k) d.L k (by rw [hd]; exact fun x hx => nomatch hx)
    refine { h with t := fun x hx => ?_, tl := ?_ }
    · have := t1 x hx
      omega
    · have h3 : (rdTexts R (R.length + 1 - k) d.L k).d.L.length ≤ n + (R.length + 1) := by
        rw [hd] at t2 ⊢
        simp only [List.length_nil] at t2
        omega
      exact h3
  | raw =>
    refine { h with tl := hn, r := ?_ }
    show (mkb (R.drop k)).size ≤ _
    rw [mkb_size, List.length_drop]
    omega

/-! ### Places -/
theorem rdName_le {T R : List UInt8} {ptd : Bool} {k : Nat} (hk : k ≤ R.length) : (rdName T R ptd k).k ≤ R.length := by
  have hs : ∀ e : Nat, ¬ (seekR R k (e : Int)).1 ≠ 0 → e ≤ R.length := fun e h => by
    unfold seekR at h
    split at h
    · exact absurd (show (2 : Nat) ≠ 0 by decide) h
    · omega
  cases ptd
  · unfold rdName
    simp only [Bool.false_eq_true, if_false]
    split
    · exact hk
    · split
      · exact hk
      · rename_i h
        exact hs _ h
  · unfold rdName
    simp only [if_true]
    split
    · exact hk
    · split
      · exact hk
      · rename_i h
        exact hs _ h
theorem rdNums_le {R : List UInt8} : ∀ (ns : List Nat) (k : Nat), k ≤ R.length → (rdNums R ns k).k ≤ R.length
  | [], k, h => h
  | n :: ns, k, h => by
    unfold rdNums
    split
    · exact rdNums_le ns k h
    · split
      · exact numR_le R k n h
      · exact rdNums_le ns _ (numR_le R k n h)
theorem rdText_le {R : List UInt8} {k : Nat} (h : k ≤ R.length) : (rdText R k).k ≤ R.length := by
  unfold rdText
  split
  · exact numR_le R k 1 h
  · exact takR_le R _ _ (numR_le R k 1 h)
theorem rdTexts_le {R : List UInt8} : ∀ (f : Nat) (L : List ByteArray) (k : Nat), k ≤ R.length → (rdTexts R f L k).k ≤ R.length
  | 0, L, k, h => h
  | f + 1, L, k, h => by
    unfold rdTexts
    split
    · split
      · exact rdText_le h
      · exact rdTexts_le f _ _ (rdText_le h)
    · exact h
theorem rdP_le {T R : List UInt8} {d : MD} {k : Nat} (p : Pt) (hk : k ≤ R.length) : (rdP T R p d k).k ≤ R.length := by
  cases p with
  | adr six =>
    have h := takR_le R k (if six then 16 else 4) hk
    rw [show rdP T R (.adr six) d k = if (takR R k (if six then 16 else 4)).e ≠ 0 then ⟨(takR R k (if six then 16 else 4)).e, k, d⟩ else ⟨(ofA (takR R k (if six then 16 else 4)).s).2, (takR R k (if six then 16 else 4)).k, { d with six := (ofA (takR R k (if six then 16 else 4)).s).1.1, hi := (ofA (takR R k (if six then 16 else 4)).s).1.2.1, lo := (ofA (takR R k (if six then 16 else 4)).s).1.2.2 }⟩ from rfl]
    generalize takR R k (if six = true then 16 else 4) = q at h ⊢
    split
    · exact hk
    · exact h
  | nam mail ptd => exact rdName_le hk
  | num a b c e f => exact rdNums_le _ k hk
  | txt => exact rdTexts_le _ _ k hk
  | raw => exact Nat.le_refl _
theorem rdP_tx (p : Pt) (hp : p ≠ .txt) (T R : List UInt8) (d : MD) (k : Nat) : (rdP T R p d k).d.L = d.L := by
  cases p with
  | adr six =>
    simp only [rdP]
    (repeat' split) <;> rfl
  | nam mail ptd => cases mail <;> rfl
  | num a b c e f => rfl
  | txt => exact absurd rfl hp
  | raw => rfl
theorem rdK_fit {T R : List UInt8} (hT : T.length ≤ 1099511627776) (hR : R.length ≤ T.length) : ∀ (K : List Pt) (n : Nat) (d : MD) (k : Nat), ((∀ p ∈ K, p ≠ .txt) ∨ K = [.txt]) → MFit n d → d.L = [] → k ≤ R.length → MFit (n + K.length * (R.length + 1)) (rdK T R K d k).d
  | [], n, d, k, _, h, _, _ => by simpa [rdK] using h
  | p :: K, n, d, k, hK, h, hL, hk => by
    have h1 := rdP_fit (T := T) p h hT hR hk (fun _ => hL)
    have hmono : ∀ x, MFit (n + (R.length + 1)) x → MFit (n + (K.length + 1) * (R.length + 1)) x := fun x hx => { hx with tl := Nat.le_trans hx.tl (by rw [Nat.add_mul]; omega) }
    unfold rdK
    split
    · exact hmono _ h1
    · rcases hK with hK | hK
      · have h2 := rdK_fit hT hR K (n + (R.length + 1)) _ (rdP T R p d k).k (.inl fun q hq => hK q (by simp [hq])) h1 (by rw [rdP_tx p (hK p (by simp))]; exact hL) (rdP_le p hk)
        exact { h2 with tl := Nat.le_trans h2.tl (by rw [List.length_cons, Nat.add_mul]; omega) }
      · injection hK with e1 e2
        subst e2
        exact hmono _ h1
end Go.Proofs.YtadeflehdfmilaaGreat
namespace Go.Proofs.YtadeflehdfmilaaGreat
open Go.RowKit Go.Maps
set_option linter.unusedVariables false
set_option maxRecDepth 100000

/-- A cursor, and its reader, made by the call. -/
structure Cu (w0 w : World) (c g : Nat) (S R : ByteArray) (k : Nat) : Prop where
  cur : Lies w c 222 #[pp g, .string S]
  rd : RD w g R k
  hk : k ≤ R.size
  lc : w0.heap.size ≤ c
  lg : w0.heap.size ≤ g
  below : Below w0.heap.size w0 w
def BegR (w : World) (S R : ByteArray) (x : Nat × Nat) (e : Ending) (w' : World) : Prop := ∃ c g, e = .returned (.tuple #[pp c, .int .i64 (x.1 : Int)]) ∧ Cu w w' c g S R x.2
theorem begin_no (S : ByteArray) (a e : Int) (w : World) (h : e < 0 ∨ (S.size : Int) < e) (hs : S.size ≤ 1099511627776) : Calls Tryz.prog 213 #[.string S, .int .i64 a, .int .i64 e] w (Told w (.tuple #[.pointer none, .int .i64 2])) := by
  by_cases h0 : e < 0
  · have d0 : decide (e < 0) = true := decide_eq_true h0
    clear h
    go_enter Tryz.func213, Tryz.ntmps213
    go_wp2
    go_ret2
    exact ⟨rfl, Below.refl _ _⟩
  · have d0 : decide (e < 0) = false := decide_eq_false h0
    have h1 : (S.size : Int) < e := h.resolve_left h0
    have d1 : decide ((S.size : Int) < e) = true := decide_eq_true h1
    clear h
    go_enter Tryz.func213, Tryz.ntmps213
    go_wp2
    go_ret2
    exact ⟨rfl, Below.refl _ _⟩
set_option maxHeartbeats 1000000 in
theorem begin_yes (S : ByteArray) (a : Int) (e : Nat) (w : World) (he : e ≤ S.size) (hs : S.size ≤ 1099511627776) : Calls Tryz.prog 213 #[.string S, .int .i64 a, .int .i64 (e : Int)] w (BegR w S (S.extract 0 e) (seekR (bs (S.extract 0 e)) 0 a)) := by
  have d0 : decide ((e : Int) < 0) = false := decide_eq_false (by omega)
  have d1 : decide ((S.size : Int) < (e : Int)) = false := decide_eq_false (by omega)
  have d1n : decide (S.size < e) = false := decide_eq_false (by omega)
  have i0 : (0 : Int) ≤ (e : Int) := by omega
  have i1 : (e : Int) ≤ (S.size : Int) := by omega
  have hsz : (S.extract 0 e).size = e := by rw [ByteArray.size_extract]; omega
  obtain ⟨R, hR⟩ : ∃ R, S.extract 0 e = R := ⟨_, rfl⟩
  rw [hR] at hsz
  have hRs : R.size ≤ 1099511627776 := by omega
  have HR := Lib.hid hR
  have HRd := Lib.hid fun wx => NewReader_any R wx
  have HSk := Lib.hid fun g wx k (h : RD wx g R k) hk => rSeek_any a h (by unfold maxLen; omega) hk
  have HSl := Lib.hid (seekR_le (bs R) 0 a (Nat.zero_le _))
  rw [show seekR (bs (S.extract 0 e)) 0 a = seekR (bs R) 0 a by rw [hR]]
  obtain ⟨q, hq⟩ : ∃ q, seekR (bs R) 0 a = q := ⟨_, rfl⟩
  have HQ := Lib.hid hq
  rw [hq] at HSl ⊢
  clear hsz hq
  go_enter Tryz.func213, Tryz.ntmps213
  go_wp2_with (first | (go_at_call 126; ((with_reducible refine (HRd.out _).mono ?_); rintro e w1 ⟨rfl, hr, hb⟩; have HRD := Lib.hid hr; have HB1 := Lib.hid hb; clear hr hb)) | (go_at_call 161; (refine (HSk.out _ _ 0 ?_ (Nat.zero_le _)).mono ?_; exact Lies.alloc HRD.out _); rintro e w2 ⟨rfl, hr2, hg2⟩; have HRD2 := Lib.hid hr2; have HG2 := Lib.hid hg2; clear hr2 hg2))
  go_ret2
  rw [HQ.out]
  have hr2 := HRD2.out
  rw [HQ.out] at hr2
  have hsl := HSl.out
  rw [bs_length] at hsl
  have hlt : w.heap.size < w1.heap.size := HRD.out.lt
  have hb2 : Below w.heap.size w (w1.alloc (.cells #[pp w.heap.size, .string S] 222)) := HB1.out.alloc HB1.out.size _
  refine ⟨w1.heap.size, w.heap.size, rfl, ?_⟩
  rw [HR.out]
  exact ⟨(Lies.new w1 222 #[pp w.heap.size, .string S]).grown HG2.out (fun e => by injection e with e; omega), hr2, hsl, HB1.out.size, Nat.le_refl _, hb2.grown HG2.out hb2.size (fun j hj => by injection hj with hj; omega)⟩

/-! ### All data -/
theorem MFit.fit {w : World} {b : Nat} {d : MD} {tv : Value} (h : MFit b d) (hb : b ≤ 17592186044416) (hr : SRow w tv d.L) : Fit w d tv :=
  { row := hr, n := Nat.le_trans h.n (by unfold maxLen; decide), m := Nat.le_trans h.m (by unfold maxLen; decide), r := Nat.le_trans h.r (by unfold maxLen; decide), t := fun x hx => Nat.le_trans (h.t x hx) (by unfold maxLen; decide), tl := Nat.le_trans h.tl hb, hi := h.hi, lo := h.lo, v0 := h.v0, v1 := h.v1, v2 := h.v2, v3 := h.v3, v4 := h.v4 }
theorem kind_ok (t : Int) : ((∀ p ∈ kindK t, p ≠ .txt) ∨ kindK t = [.txt]) ∧ (kindK t).length ≤ 3 := by
  unfold kindK table
  repeat' split
  all_goals first | exact ⟨.inr rfl, by decide⟩ | exact ⟨.inl (by simp), by decide⟩
/-- What readAll makes of what was read. -/
def allR (K : List Pt) (T R : List UInt8) (k : Nat) : Nat × MD :=
  if (rdK T R K md0 k).e ≠ 0 then ((rdK T R K md0 k).e, md0) else if (rdK T R K md0 k).k < R.length ∨ allK K (rdK T R K md0 k).d ≠ 0 then (4, md0) else (0, (rdK T R K md0 k).d)
/-- Data are handed back, and an error. -/
def DataR (base : Nat) (w : World) (x : Nat × MD) (e : Ending) (w' : World) : Prop := ∃ tv, e = .returned (.tuple #[dataV x.2 tv, .int .i64 (x.1 : Int)]) ∧ SRow w' tv x.2.L ∧ (∃ n cap A, tv = .slice A n cap) ∧ (∀ j, blk tv = some j → base ≤ j) ∧ Below base w w'
/-- Twelve cells are written. -/
theorem put12 {w : World} {b : Nat} {t : TypeId} {d d' : MD} {tv tv' : Value} (h : Lies w b t (cellsD d tv)) :
    Lies ((((((((((((w.setCell ⟨b, 0, none⟩ (.bool d'.six)).setCell ⟨b, 1, none⟩ (.int .u64 (d'.hi : Int))).setCell ⟨b, 2, none⟩ (.int .u64 (d'.lo : Int))).setCell ⟨b, 3, none⟩ (.string d'.n)).setCell ⟨b, 4, none⟩ (.string d'.m)).setCell ⟨b, 5, none⟩ (.int .u32 (d'.v0 : Int))).setCell ⟨b, 6, none⟩ (.int .u32 (d'.v1 : Int))).setCell ⟨b, 7, none⟩ (.int .u32 (d'.v2 : Int))).setCell ⟨b, 8, none⟩ (.int .u32 (d'.v3 : Int))).setCell ⟨b, 9, none⟩ (.int .u32 (d'.v4 : Int))).setCell ⟨b, 10, none⟩ tv').setCell ⟨b, 11, none⟩ (.string d'.r)) b t (cellsD d' tv') ∧
    w.grownBy ((((((((((((w.setCell ⟨b, 0, none⟩ (.bool d'.six)).setCell ⟨b, 1, none⟩ (.int .u64 (d'.hi : Int))).setCell ⟨b, 2, none⟩ (.int .u64 (d'.lo : Int))).setCell ⟨b, 3, none⟩ (.string d'.n)).setCell ⟨b, 4, none⟩ (.string d'.m)).setCell ⟨b, 5, none⟩ (.int .u32 (d'.v0 : Int))).setCell ⟨b, 6, none⟩ (.int .u32 (d'.v1 : Int))).setCell ⟨b, 7, none⟩ (.int .u32 (d'.v2 : Int))).setCell ⟨b, 8, none⟩ (.int .u32 (d'.v3 : Int))).setCell ⟨b, 9, none⟩ (.int .u32 (d'.v4 : Int))).setCell ⟨b, 10, none⟩ tv').setCell ⟨b, 11, none⟩ (.string d'.r)) (some b) := by
  have h0' : Lies w b t #[.bool d.six, .int .u64 (d.hi : Int), .int .u64 (d.lo : Int), .string d.n, .string d.m, .int .u32 (d.v0 : Int), .int .u32 (d.v1 : Int), .int .u32 (d.v2 : Int), .int .u32 (d.v3 : Int), .int .u32 (d.v4 : Int), tv, .string d.r] := h
  have s0 : Lies _ b t #[.bool d'.six, .int .u64 (d.hi : Int), .int .u64 (d.lo : Int), .string d.n, .string d.m, .int .u32 (d.v0 : Int), .int .u32 (d.v1 : Int), .int .u32 (d.v2 : Int), .int .u32 (d.v3 : Int), .int .u32 (d.v4 : Int), tv, .string d.r] := h0'.set 0 (.bool d'.six)
  have s1 : Lies _ b t #[.bool d'.six, .int .u64 (d'.hi : Int), .int .u64 (d.lo : Int), .string d.n, .string d.m, .int .u32 (d.v0 : Int), .int .u32 (d.v1 : Int), .int .u32 (d.v2 : Int), .int .u32 (d.v3 : Int), .int .u32 (d.v4 : Int), tv, .string d.r] := s0.set 1 (.int .u64 (d'.hi : Int))
  have s2 : Lies _ b t #[.bool d'.six, .int .u64 (d'.hi : Int), .int .u64 (d'.lo : Int), .string d.n, .string d.m, .int .u32 (d.v0 : Int), .int .u32 (d.v1 : Int), .int .u32 (d.v2 : Int), .int .u32 (d.v3 : Int), .int .u32 (d.v4 : Int), tv, .string d.r] := s1.set 2 (.int .u64 (d'.lo : Int))
  have s3 : Lies _ b t #[.bool d'.six, .int .u64 (d'.hi : Int), .int .u64 (d'.lo : Int), .string d'.n, .string d.m, .int .u32 (d.v0 : Int), .int .u32 (d.v1 : Int), .int .u32 (d.v2 : Int), .int .u32 (d.v3 : Int), .int .u32 (d.v4 : Int), tv, .string d.r] := s2.set 3 (.string d'.n)
  have s4 : Lies _ b t #[.bool d'.six, .int .u64 (d'.hi : Int), .int .u64 (d'.lo : Int), .string d'.n, .string d'.m, .int .u32 (d.v0 : Int), .int .u32 (d.v1 : Int), .int .u32 (d.v2 : Int), .int .u32 (d.v3 : Int), .int .u32 (d.v4 : Int), tv, .string d.r] := s3.set 4 (.string d'.m)
  have s5 : Lies _ b t #[.bool d'.six, .int .u64 (d'.hi : Int), .int .u64 (d'.lo : Int), .string d'.n, .string d'.m, .int .u32 (d'.v0 : Int), .int .u32 (d.v1 : Int), .int .u32 (d.v2 : Int), .int .u32 (d.v3 : Int), .int .u32 (d.v4 : Int), tv, .string d.r] := s4.set 5 (.int .u32 (d'.v0 : Int))
  have s6 : Lies _ b t #[.bool d'.six, .int .u64 (d'.hi : Int), .int .u64 (d'.lo : Int), .string d'.n, .string d'.m, .int .u32 (d'.v0 : Int), .int .u32 (d'.v1 : Int), .int .u32 (d.v2 : Int), .int .u32 (d.v3 : Int), .int .u32 (d.v4 : Int), tv, .string d.r] := s5.set 6 (.int .u32 (d'.v1 : Int))
  have s7 : Lies _ b t #[.bool d'.six, .int .u64 (d'.hi : Int), .int .u64 (d'.lo : Int), .string d'.n, .string d'.m, .int .u32 (d'.v0 : Int), .int .u32 (d'.v1 : Int), .int .u32 (d'.v2 : Int), .int .u32 (d.v3 : Int), .int .u32 (d.v4 : Int), tv, .string d.r] := s6.set 7 (.int .u32 (d'.v2 : Int))
  have s8 : Lies _ b t #[.bool d'.six, .int .u64 (d'.hi : Int), .int .u64 (d'.lo : Int), .string d'.n, .string d'.m, .int .u32 (d'.v0 : Int), .int .u32 (d'.v1 : Int), .int .u32 (d'.v2 : Int), .int .u32 (d'.v3 : Int), .int .u32 (d.v4 : Int), tv, .string d.r] := s7.set 8 (.int .u32 (d'.v3 : Int))
  have s9 : Lies _ b t #[.bool d'.six, .int .u64 (d'.hi : Int), .int .u64 (d'.lo : Int), .string d'.n, .string d'.m, .int .u32 (d'.v0 : Int), .int .u32 (d'.v1 : Int), .int .u32 (d'.v2 : Int), .int .u32 (d'.v3 : Int), .int .u32 (d'.v4 : Int), tv, .string d.r] := s8.set 9 (.int .u32 (d'.v4 : Int))
  have s10 : Lies _ b t #[.bool d'.six, .int .u64 (d'.hi : Int), .int .u64 (d'.lo : Int), .string d'.n, .string d'.m, .int .u32 (d'.v0 : Int), .int .u32 (d'.v1 : Int), .int .u32 (d'.v2 : Int), .int .u32 (d'.v3 : Int), .int .u32 (d'.v4 : Int), tv', .string d.r] := s9.set 10 (tv')
  have s11 : Lies _ b t #[.bool d'.six, .int .u64 (d'.hi : Int), .int .u64 (d'.lo : Int), .string d'.n, .string d'.m, .int .u32 (d'.v0 : Int), .int .u32 (d'.v1 : Int), .int .u32 (d'.v2 : Int), .int .u32 (d'.v3 : Int), .int .u32 (d'.v4 : Int), tv', .string d'.r] := s10.set 11 (.string d'.r)
  exact ⟨s11,
    grown_next (grown_next (grown_next (grown_next (grown_next (grown_next (grown_next (grown_next (grown_next (grown_next (grown_next (grown_one w b 0 _) (grown_one _ b 1 _)) (grown_one _ b 2 _)) (grown_one _ b 3 _)) (grown_one _ b 4 _)) (grown_one _ b 5 _)) (grown_one _ b 6 _)) (grown_one _ b 7 _)) (grown_one _ b 8 _)) (grown_one _ b 9 _)) (grown_one _ b 10 _)) (grown_one _ b 11 _)⟩
end Go.Proofs.YtadeflehdfmilaaGreat
namespace Go.Proofs.YtadeflehdfmilaaGreat
open Go.RowKit Go.Maps
set_option linter.unusedVariables false
set_option maxRecDepth 100000

set_option maxHeartbeats 1000000 in
theorem put12z {w : World} {b : Nat} {t : TypeId} {d : MD} {tv : Value} (h : Lies w b t (cellsD d tv)) :
    Lies ((((((((((((w.setCell ⟨b, 0, none⟩ (.bool false)).setCell ⟨b, 1, none⟩ (.int .u64 0)).setCell ⟨b, 2, none⟩ (.int .u64 0)).setCell ⟨b, 3, none⟩ (.string ⟨#[]⟩)).setCell ⟨b, 4, none⟩ (.string ⟨#[]⟩)).setCell ⟨b, 5, none⟩ (.int .u32 0)).setCell ⟨b, 6, none⟩ (.int .u32 0)).setCell ⟨b, 7, none⟩ (.int .u32 0)).setCell ⟨b, 8, none⟩ (.int .u32 0)).setCell ⟨b, 9, none⟩ (.int .u32 0)).setCell ⟨b, 10, none⟩ (.slice none 0 0)).setCell ⟨b, 11, none⟩ (.string ⟨#[]⟩)) b t (cellsD md0 nilS) ∧ w.grownBy ((((((((((((w.setCell ⟨b, 0, none⟩ (.bool false)).setCell ⟨b, 1, none⟩ (.int .u64 0)).setCell ⟨b, 2, none⟩ (.int .u64 0)).setCell ⟨b, 3, none⟩ (.string ⟨#[]⟩)).setCell ⟨b, 4, none⟩ (.string ⟨#[]⟩)).setCell ⟨b, 5, none⟩ (.int .u32 0)).setCell ⟨b, 6, none⟩ (.int .u32 0)).setCell ⟨b, 7, none⟩ (.int .u32 0)).setCell ⟨b, 8, none⟩ (.int .u32 0)).setCell ⟨b, 9, none⟩ (.int .u32 0)).setCell ⟨b, 10, none⟩ (.slice none 0 0)).setCell ⟨b, 11, none⟩ (.string ⟨#[]⟩)) (some b) := put12 (d' := md0) (tv' := nilS) h
theorem lies12z {w : World} {b : Nat} {t : TypeId} (h : Lies w b t (cellsD md0 nilS)) : w.cell? ⟨b, 0, none⟩ = some (.bool false) ∧ w.cell? ⟨b, 1, none⟩ = some (.int .u64 0) ∧ w.cell? ⟨b, 2, none⟩ = some (.int .u64 0) ∧ w.cell? ⟨b, 3, none⟩ = some (.string ⟨#[]⟩) ∧ w.cell? ⟨b, 4, none⟩ = some (.string ⟨#[]⟩) ∧
    w.cell? ⟨b, 5, none⟩ = some (.int .u32 0) ∧ w.cell? ⟨b, 6, none⟩ = some (.int .u32 0) ∧ w.cell? ⟨b, 7, none⟩ = some (.int .u32 0) ∧ w.cell? ⟨b, 8, none⟩ = some (.int .u32 0) ∧ w.cell? ⟨b, 9, none⟩ = some (.int .u32 0) ∧ w.cell? ⟨b, 10, none⟩ = some (.slice none 0 0) ∧ w.cell? ⟨b, 11, none⟩ = some (.string ⟨#[]⟩) := lies12 h
theorem freeL {w : World} {b : Nat} {t : TypeId} {cs : Array Value} (h : Lies w b t cs) : ∀ j, w.frozen? ⟨b, j, none⟩ = false := fun j => h.free j
theorem rowblk {w : World} {base c g gd : Nat} {F : Nat → Prop} {S R : ByteArray} {k : Nat} {d : MD} {tv : Value} {b : Nat} {cs : Array Value} (h : RS w base F c g gd S R k d tv) (hb : blk tv = some b) (hl : Lies w b 30 cs) : False := by
  rcases h.own.2 with ⟨e1, _⟩ | ⟨b', cap, cur, e1, h2, h3, h4⟩
  · rw [e1] at hb; cases hb
  · rw [e1] at hb
    have : b' = b := (blk_eq hb).2
    subst this
    exact Lies.ne hl h3 (by decide) rfl
theorem rowbase {w : World} {base c g gd : Nat} {F : Nat → Prop} {S R : ByteArray} {k : Nat} {d : MD} {tv : Value} (h : RS w base F c g gd S R k d tv) : ∀ j, blk tv = some j → base ≤ j := by
  intro j hb
  rcases h.own.2 with ⟨e1, _⟩ | ⟨b', cap, cur, e1, h2, h3, h4⟩
  · rw [e1] at hb; cases hb
  · rw [e1] at hb
    have : b' = j := (blk_eq hb).2
    subst this
    exact h2
set_option maxHeartbeats 4000000 in
theorem readAll_any {lo : Nat} (x : K5) (K : List Pt) (hK : ((∀ p ∈ K, p ≠ .txt) ∨ K = [.txt]) ∧ K.length ≤ 3) {w0 w : World} {c g : Nat} {S R : ByteArray} {k : Nat} (hk : IK lo w0 (kv x) K) (hc : Cu w0 w c g S R k) (hS : S.size ≤ 1099511627776) (hR : R.size ≤ S.size) :
    Calls Tryz.prog 214 #[kv x, pp c] w (DataR w0.heap.size w (allR K (bs S) (bs R) k)) := by
  obtain ⟨Bs, hBs, hgo, hops⟩ := hk.ops
  obtain ⟨W, hW⟩ : ∃ W, W = ((w.alloc (.cells #[fv x.a0, fv x.a1, fv x.a2, fv x.a3, fv x.a4] 146)).alloc (.cells #[.bool false, .int .u64 0, .int .u64 0, .string ⟨#[]⟩, .string ⟨#[]⟩, .int .u32 0, .int .u32 0, .int .u32 0, .int .u32 0, .int .u32 0, .slice none 0 0, .string ⟨#[]⟩] 30)).alloc (.cells #[.bool false, .int .u64 0, .int .u64 0, .string ⟨#[]⟩, .string ⟨#[]⟩, .int .u32 0, .int .u32 0, .int .u32 0, .int .u32 0, .int .u32 0, .slice none 0 0, .string ⟨#[]⟩] 30) := ⟨_, rfl⟩
  have hz0 : w0.heap.size ≤ w.heap.size := hc.below.size
  have hb0 : Below w.heap.size w W := by rw [hW]; exact (((Below.refl _ _).alloc (Nat.le_refl _) _).alloc (by simp) _).alloc (by simp; omega) _
  have l0 : Lies W w.heap.size 146 #[fv x.a0, fv x.a1, fv x.a2, fv x.a3, fv x.a4] := by rw [hW]; exact ((Lies.new w _ _).alloc _).alloc _
  have l1 : Lies W (w.heap.size + 1) 30 (cellsD md0 nilS) := by
    have := (Lies.new (w.alloc (.cells #[fv x.a0, fv x.a1, fv x.a2, fv x.a3, fv x.a4] 146)) 30 #[.bool false, .int .u64 0, .int .u64 0, .string ⟨#[]⟩, .string ⟨#[]⟩, .int .u32 0, .int .u32 0, .int .u32 0, .int .u32 0, .int .u32 0, .slice none 0 0, .string ⟨#[]⟩]).alloc (.cells #[.bool false, .int .u64 0, .int .u64 0, .string ⟨#[]⟩, .string ⟨#[]⟩, .int .u32 0, .int .u32 0, .int .u32 0, .int .u32 0, .int .u32 0, .slice none 0 0, .string ⟨#[]⟩] 30)
    rw [size_alloc] at this
    rw [hW]
    exact this
  have l2 : Lies W (w.heap.size + 1 + 1) 30 (cellsD md0 nilS) := by
    have := Lies.new ((w.alloc (.cells #[fv x.a0, fv x.a1, fv x.a2, fv x.a3, fv x.a4] 146)).alloc (.cells #[.bool false, .int .u64 0, .int .u64 0, .string ⟨#[]⟩, .string ⟨#[]⟩, .int .u32 0, .int .u32 0, .int .u32 0, .int .u32 0, .int .u32 0, .slice none 0 0, .string ⟨#[]⟩] 30)) 30 #[.bool false, .int .u64 0, .int .u64 0, .string ⟨#[]⟩, .string ⟨#[]⟩, .int .u32 0, .int .u32 0, .int .u32 0, .int .u32 0, .int .u32 0, .slice none 0 0, .string ⟨#[]⟩]
    rw [size_alloc, size_alloc] at this
    rw [hW]
    exact this
  have hbW : Below w0.heap.size w0 W := hc.below.trans (hb0.mono hz0)
  have hWs : w.heap.size + 1 + 1 < W.heap.size := l2.lt
  have hcl := hc.cur.lt
  have hgl : g < w.heap.size := hc.rd.lt
  obtain ⟨F, hF⟩ : ∃ F : Nat → Prop, ∀ j, F j ↔ (j = g ∨ j = w.heap.size + 1 + 1) := ⟨_, fun _ => Iff.rfl⟩
  have hcg : c ≠ g := Lies.ne hc.cur hc.rd (by decide)
  have hRS : RS W w0.heap.size F c g (w.heap.size + 1 + 1) S R k md0 nilS := ⟨hc.cur.next hb0, Lies.next hc.rd hb0, hc.hk, l2, World.ownsRow_nil W _ _ 1, hc.lg, by omega, (hF _).2 (.inl rfl), (hF _).2 (.inr rfl), (fun j hj => by simp [Value.ownBlock] at hj), (fun h => by
    rcases (hF _).1 h with h | h
    · exact hcg h
    · omega), fun j hj => by
    rcases (hF _).1 hj with rfl | rfl
    · exact ⟨hc.lg, by omega⟩
    · exact ⟨by omega, by omega⟩⟩
  have hkx : KOps Bs K W (fv x.a0) (fv x.a1) (fv x.a2) (fv x.a3) (fv x.a4) := hops W hbW.size fun j _ hj => hbW.block j hj
  have HRead := Lib.hid (hkx.read w0.heap.size F c g (w.heap.size + 1 + 1) S R k md0 nilS (fun j hj hf => by
    have := (hBs j hj).2
    rcases (hF _).1 hf with rfl | rfl
    · have := hc.lg
      omega
    · omega) hS hR rfl hRS).calls
  have hF0 : ¬ F w.heap.size := fun h => by rcases (hF _).1 h with h | h <;> omega
  have hF1 : ¬ F (w.heap.size + 1) := fun h => by rcases (hF _).1 h with h | h <;> omega
  have HBoth : Hid (∀ w4 F', Kf w0.heap.size F F' W w4 → Below w0.heap.size w w4 ∧ Lies w4 w.heap.size 146 #[fv x.a0, fv x.a1, fv x.a2, fv x.a3, fv x.a4] ∧ Lies w4 (w.heap.size + 1) 30 (cellsD md0 nilS) ∧ IK lo w4 (kv x) K) := Lib.hid fun w4 F' hkf =>
    ⟨(hb0.mono hz0).trans hkf.below, (hkf.rest _ l0.lt hF0).trans l0, (hkf.rest _ l1.lt hF1).trans l1, hk.next (CG.of_below (hbW.trans hkf.below))⟩
  have g4 := hgo.2.2.2.2
  unfold Goes at g4
  have c4 := l0.cell 4
  have hlR : (bs R).length ≤ (bs S).length := by rw [bs_length, bs_length]; exact hR
  have HFit := Lib.hid (rdK_fit (T := bs S) (R := bs R) (by rw [bs_length]; exact hS) hlR K 0 md0 k hK.1 mfit0 rfl (by rw [bs_length]; exact hc.hk))
  have HFb : Hid (0 + K.length * ((bs R).length + 1) ≤ 17592186044416) := Lib.hid (by
    have h3 := hK.2
    have h4 : (bs R).length + 1 ≤ 1099511627777 := by rw [bs_length]; omega
    calc 0 + K.length * ((bs R).length + 1) ≤ 3 * 1099511627777 := by rw [Nat.zero_add]; exact Nat.mul_le_mul h3 h4
      _ ≤ 17592186044416 := by decide)
  have HAllR : Hid (allR K (bs S) (bs R) k = if (rdK (bs S) (bs R) K md0 k).e ≠ 0 then ((rdK (bs S) (bs R) K md0 k).e, md0) else if (rdK (bs S) (bs R) K md0 k).k < (bs R).length ∨ allK K (rdK (bs S) (bs R) K md0 k).d ≠ 0 then (4, md0) else (0, (rdK (bs S) (bs R) K md0 k).d)) := Lib.hid rfl
  have hRm : R.size ≤ maxLen := by unfold maxLen; omega
  obtain ⟨A, hA⟩ : ∃ A, allR K (bs S) (bs R) k = A := ⟨_, rfl⟩
  obtain ⟨Q, hQ⟩ : ∃ Q, rdK (bs S) (bs R) K md0 k = Q := ⟨_, rfl⟩
  rw [hA] at HAllR ⊢
  rw [hQ] at HAllR HFit HRead
  have hRlen : (bs R).length = R.size := bs_length R
  rw [hRlen] at HAllR
  have Hz0 := Lib.hid hz0
  clear hA hQ hRS hkx hops hBs hgo hk hc hb0 l0 l1 l2 hbW hWs hcl hgl hcg hF0 hF1 hlR hK hRlen hF hz0
  by_cases h0 : Q.e = 0
  · have HA := Lib.hid (HAllR.out.trans (if_neg (fun hn => hn h0)))
    have HX : Hid (∀ w4 F' k' d' tv', RS w4 w0.heap.size F' c g (w.heap.size + 1 + 1) S R k' d' tv' → Kf w0.heap.size F F' W w4 → (Q.e = 0 → k' = Q.k ∧ d' = Q.d) → k' = Q.k ∧ d' = Q.d) := Lib.hid fun _ _ _ _ _ _ _ h => h h0
    have HRead2 : Hid (Calls Tryz.prog x.a4.id (#[pp c, pp (w.heap.size + 1 + 1)] ++ x.a4.caps) W fun e w4 => e = .returned (.int .i64 0) ∧ ∃ F' tv', RS w4 w0.heap.size F' c g (w.heap.size + 1 + 1) S R Q.k Q.d tv' ∧ Kf w0.heap.size F F' W w4) := Lib.hid (HRead.out.mono fun e w4 he => by
      obtain ⟨e1, F', k', d', tv', h1, h2, h3⟩ := he
      obtain ⟨rfl, rfl⟩ := h3 h0
      exact ⟨by rw [e1, h0]; rfl, F', tv', h1, h2⟩)
    clear HRead HX HAllR h0
    by_cases hl : Q.k < R.size
    · have HV : Hid (A = (4, md0)) := Lib.hid (HA.out.trans (if_pos (.inl hl)))
      have hgt : decide ((0 : Int) < (R.size : Int) - (Q.k : Int)) = true := by rw [decide_eq_true_iff]; omega
      have hgt' : (0 : Int) < (R.size : Int) - (Q.k : Int) := by omega
      clear hl HA HFit HFb
      go_enter Tryz.func214, Tryz.ntmps214
      go_upto_region 2 with (fail)
      rw [← hW]
      clear hW
      go_wp2_with (first | ((with_reducible refine HRead2.out.mono ?_); rintro e w4 ⟨rfl, F', tv', h1, h2⟩; obtain ⟨hb4, k0, k1, hik⟩ := HBoth.out _ _ h2; obtain ⟨j0, j1, j2, j3, j4, j5, j6, j7, j8, j9, j10, j11⟩ := lies12z k1; have fz := freeL k1; have hcc := h1.curCells.1; have HLf := Lib.hid (rLeft_any h1.rd hRm h1.hk); have H1 := Lib.hid h1; have HB4 := Lib.hid hb4; have HL1 := Lib.hid k1; have HL0 := Lib.hid k0; have HIK := Lib.hid hik; clear h1 h2 hb4 k0 k1 hik) | (go_at_call 153; (with_reducible refine HLf.out.mono ?_); rintro e w5 ⟨rfl, nd, rfl⟩))
      obtain ⟨p1, p2⟩ := put12z (Lies.drewN HL1.out nd)
      obtain ⟨r0, r1, r2, r3, r4, r5, r6, r7, r8, r9, r10, r11⟩ := lies12z p1
      refine bodyPost_ret (v := .tuple #[zeroD, .int .i64 (4)]) (by simp [results, Tryz.results214, go_sem, r0, r1, r2, r3, r4, r5, r6, r7, r8, r9, r10, r11]) rfl ?_
      rw [HV.out]
      have hbd : Below w0.heap.size w (w4.drewN nd) := HB4.out.trans ⟨rfl, rfl, rfl, Nat.le_refl _, fun _ _ => rfl⟩
      exact ⟨nilS, rfl, .inl ⟨_, rfl, rfl⟩, ⟨_, _, _, rfl⟩, (fun j hj => nomatch hj), hbd.grown p2 (Nat.le_trans Hz0.out (Nat.le_trans (Nat.le_of_lt (Nat.lt_succ_self _)) (Nat.le_of_lt HL1.out.lt))) (fun j hj => by injection hj with hj; have := Hz0.out; omega)⟩
    · have hgt : decide ((0 : Int) < (R.size : Int) - (Q.k : Int)) = false := by rw [decide_eq_false_iff_not]; omega
      have hgt' : ¬ (0 : Int) < (R.size : Int) - (Q.k : Int) := by omega
      have HAll : Hid (∀ w5 tv', SRow w5 tv' Q.d.L → IK lo w5 (kv x) K → Calls Tryz.prog 85 #[kv x, dataV Q.d tv'] w5 (Told w5 (.int .i64 (allK K Q.d : Nat)))) := Lib.hid fun w5 tv' hr hik => all_any x K Q.d tv' w5 hik (HFit.out.fit HFb.out hr)
      have HD5 : Hid (∀ w4 F' tv' nd, RS w4 w0.heap.size F' c g (w.heap.size + 1 + 1) S R Q.k Q.d tv' → SRow (w4.drewN nd) tv' Q.d.L) := Lib.hid fun w4 F' tv' nd h => (SRow.of_own h.own).far (Nat.le_refl _) (fun _ _ => rfl)
      have HIKd : Hid (∀ w4 nd, IK lo w4 (kv x) K → IK lo (w4.drewN nd) (kv x) K) := Lib.hid fun w4 nd h => h.next ⟨Nat.le_refl _, fun _ _ _ _ _ => rfl⟩
      by_cases ha : allK K Q.d = 0
      · have HV : Hid (A = (0, Q.d)) := Lib.hid (HA.out.trans (if_neg (fun hn => hn.elim hl (fun h => h ha))))
        rw [ha] at HAll
        clear hl HA HFit HFb ha
        go_enter Tryz.func214, Tryz.ntmps214
        go_upto_region 2 with (fail)
        rw [← hW]
        clear hW
        go_wp2_with (first | ((with_reducible refine HRead2.out.mono ?_); rintro e w4 ⟨rfl, F', tv', h1, h2⟩; obtain ⟨hb4, k0, k1, hik⟩ := HBoth.out _ _ h2; obtain ⟨AA, cc, rfl⟩ : ∃ AA cc, tv' = .slice AA Q.d.L.length cc := (let ⟨AA, cc, e, _⟩ := (SRow.of_own h1.own).shape; ⟨AA, cc, e⟩); obtain ⟨j0, j1, j2, j3, j4⟩ := (show w4.cell? ⟨w.heap.size, 0, none⟩ = some (fv x.a0) ∧ w4.cell? ⟨w.heap.size, 1, none⟩ = some (fv x.a1) ∧ w4.cell? ⟨w.heap.size, 2, none⟩ = some (fv x.a2) ∧ w4.cell? ⟨w.heap.size, 3, none⟩ = some (fv x.a3) ∧ w4.cell? ⟨w.heap.size, 4, none⟩ = some (fv x.a4) from ⟨k0.cell 0, k0.cell 1, k0.cell 2, k0.cell 3, k0.cell 4⟩); obtain ⟨d0, d1, d2, d3, d4, d5, d6, d7, d8, d9, d10, d11⟩ := lies12 h1.dat; have hcc := h1.curCells.1; have HLf := Lib.hid (rLeft_any h1.rd hRm h1.hk); have HDat := Lib.hid h1.dat; have HRow0 := Lib.hid (fun nd => And.intro (HD5.out w4 F' _ nd h1) (And.intro (fun hb : blk (Value.slice AA Q.d.L.length cc) = some (w.heap.size + 1) => rowblk h1 hb k1) (rowbase h1))); have HB4 := Lib.hid hb4; have HL1 := Lib.hid k1; have HIK := Lib.hid hik; clear h1 h2 hb4 k0 k1 hik) | (go_at_call 153; (with_reducible refine HLf.out.mono ?_); rintro e w5 ⟨rfl, nd, rfl⟩; have HRow := Lib.hid (HRow0.out nd); have HC5 := Lib.hid (HAll.out _ _ (HRow0.out nd).1 (HIKd.out _ nd HIK.out))) | (go_at_call 85; (with_reducible refine HC5.out.mono ?_); rintro e w6 ⟨rfl, hb6⟩; have hq1 := Lies.next (Lies.drewN HL1.out nd) hb6; obtain ⟨q0, q1, q2, q3, q4, q5, q6, q7, q8, q9, q10, q11⟩ := lies12z hq1; have fq := freeL hq1; obtain ⟨s0, s1, s2, s3, s4, s5, s6, s7, s8, s9, s10, s11⟩ := lies12 (Lies.next (Lies.drewN HDat.out nd) hb6); have HL6 := Lib.hid hq1; have HB6 := Lib.hid hb6; clear hb6 hq1))
        obtain ⟨p1, p2⟩ := put12 (d' := Q.d) (tv' := .slice AA Q.d.L.length cc) HL6.out
        obtain ⟨r0, r1, r2, r3, r4, r5, r6, r7, r8, r9, r10, r11⟩ := lies12 p1
        refine bodyPost_ret (v := .tuple #[dataV Q.d (.slice AA Q.d.L.length cc), .int .i64 0]) (by simp [results, Tryz.results214, go_sem, r0, r1, r2, r3, r4, r5, r6, r7, r8, r9, r10, r11]) rfl ?_
        rw [HV.out]
        have hbd : Below w0.heap.size w (w4.drewN nd) := HB4.out.trans ⟨rfl, rfl, rfl, Nat.le_refl _, fun _ _ => rfl⟩
        have hsz : w0.heap.size ≤ (w4.drewN nd).heap.size := Nat.le_trans Hz0.out (Nat.le_trans (Nat.le_of_lt (Nat.lt_succ_self _)) (Nat.le_of_lt HL1.out.lt))
        have hb6 := hbd.trans (HB6.out.mono hsz)
        refine ⟨_, rfl, ?_, ⟨_, _, _, rfl⟩, HRow.out.2.2, hb6.grown p2 (Nat.le_trans hsz HB6.out.size) (fun j hj => by injection hj with hj; have := Hz0.out; omega)⟩
        have hne := HRow.out.2.1
        exact (HRow.out.1.next HB6.out).far p2.size fun j hj => p2.block j (by
          rcases HRow.out.1.next HB6.out with ⟨_, e1, _⟩ | ⟨g9, off9, cap9, e1, h9, _⟩
          · rw [e1, blk_none] at hj; cases hj
          · rw [e1] at hj
            have : g9 = j := (blk_eq hj).2
            omega) (fun e => by injection e with e; exact hne (e ▸ hj))
      · have HV : Hid (A = (4, md0)) := Lib.hid (HA.out.trans (if_pos (.inr ha)))
        have hne : (((allK K Q.d : Nat) : Int) != 0) = true := by rw [bne_iff_ne]; omega
        obtain ⟨al, hal⟩ : ∃ al, allK K Q.d = al := ⟨_, rfl⟩
        rw [hal] at HAll hne
        clear hl HA HFit HFb ha hal
        go_enter Tryz.func214, Tryz.ntmps214
        go_upto_region 2 with (fail)
        rw [← hW]
        clear hW
        go_wp2_with (first | ((with_reducible refine HRead2.out.mono ?_); rintro e w4 ⟨rfl, F', tv', h1, h2⟩; obtain ⟨hb4, k0, k1, hik⟩ := HBoth.out _ _ h2; obtain ⟨AA, cc, rfl⟩ : ∃ AA cc, tv' = .slice AA Q.d.L.length cc := (let ⟨AA, cc, e, _⟩ := (SRow.of_own h1.own).shape; ⟨AA, cc, e⟩); obtain ⟨j0, j1, j2, j3, j4⟩ := (show w4.cell? ⟨w.heap.size, 0, none⟩ = some (fv x.a0) ∧ w4.cell? ⟨w.heap.size, 1, none⟩ = some (fv x.a1) ∧ w4.cell? ⟨w.heap.size, 2, none⟩ = some (fv x.a2) ∧ w4.cell? ⟨w.heap.size, 3, none⟩ = some (fv x.a3) ∧ w4.cell? ⟨w.heap.size, 4, none⟩ = some (fv x.a4) from ⟨k0.cell 0, k0.cell 1, k0.cell 2, k0.cell 3, k0.cell 4⟩); obtain ⟨d0, d1, d2, d3, d4, d5, d6, d7, d8, d9, d10, d11⟩ := lies12 h1.dat; have hcc := h1.curCells.1; have HLf := Lib.hid (rLeft_any h1.rd hRm h1.hk); have HDat := Lib.hid h1.dat; have HRow0 := Lib.hid (fun nd => And.intro (HD5.out w4 F' _ nd h1) (And.intro (fun hb : blk (Value.slice AA Q.d.L.length cc) = some (w.heap.size + 1) => rowblk h1 hb k1) (rowbase h1))); have HB4 := Lib.hid hb4; have HL1 := Lib.hid k1; have HIK := Lib.hid hik; clear h1 h2 hb4 k0 k1 hik) | (go_at_call 153; (with_reducible refine HLf.out.mono ?_); rintro e w5 ⟨rfl, nd, rfl⟩; have HRow := Lib.hid (HRow0.out nd); have HC5 := Lib.hid (HAll.out _ _ (HRow0.out nd).1 (HIKd.out _ nd HIK.out))) | (go_at_call 85; (with_reducible refine HC5.out.mono ?_); rintro e w6 ⟨rfl, hb6⟩; have hq1 := Lies.next (Lies.drewN HL1.out nd) hb6; obtain ⟨q0, q1, q2, q3, q4, q5, q6, q7, q8, q9, q10, q11⟩ := lies12z hq1; have fq := freeL hq1; have HL6 := Lib.hid hq1; have HB6 := Lib.hid hb6; clear hb6 hq1))
        obtain ⟨p1, p2⟩ := put12z HL6.out
        obtain ⟨r0, r1, r2, r3, r4, r5, r6, r7, r8, r9, r10, r11⟩ := lies12z p1
        refine bodyPost_ret (v := .tuple #[zeroD, .int .i64 4]) (by simp [results, Tryz.results214, go_sem, r0, r1, r2, r3, r4, r5, r6, r7, r8, r9, r10, r11]) rfl ?_
        rw [HV.out]
        have hbd : Below w0.heap.size w (w4.drewN nd) := HB4.out.trans ⟨rfl, rfl, rfl, Nat.le_refl _, fun _ _ => rfl⟩
        have hsz : w0.heap.size ≤ (w4.drewN nd).heap.size := Nat.le_trans Hz0.out (Nat.le_trans (Nat.le_of_lt (Nat.lt_succ_self _)) (Nat.le_of_lt HL1.out.lt))
        exact ⟨nilS, rfl, .inl ⟨_, rfl, rfl⟩, ⟨_, _, _, rfl⟩, (fun j hj => nomatch hj), (hbd.trans (HB6.out.mono hsz)).grown p2 (Nat.le_trans hsz HB6.out.size) (fun j hj => by injection hj with hj; have := Hz0.out; omega)⟩
  · have HV : Hid (A = (Q.e, md0)) := Lib.hid (HAllR.out.trans (if_pos h0))
    have hne : (((Q.e : Nat) : Int) != 0) = true := by rw [bne_iff_ne]; omega
    have HRead2 : Hid (Calls Tryz.prog x.a4.id (#[pp c, pp (w.heap.size + 1 + 1)] ++ x.a4.caps) W fun e w4 => e = .returned (.int .i64 (Q.e : Int)) ∧ ∃ F', Kf w0.heap.size F F' W w4) := Lib.hid (HRead.out.mono fun e w4 he => by
      obtain ⟨e1, F', k', d', tv', h1, h2, h3⟩ := he
      exact ⟨e1, F', h2⟩)
    clear HRead HAllR h0 HFit HFb
    go_enter Tryz.func214, Tryz.ntmps214
    go_upto_region 2 with (fail)
    rw [← hW]
    clear hW
    go_wp2_with ((with_reducible refine HRead2.out.mono ?_); rintro e w4 ⟨rfl, F', h2⟩; obtain ⟨hb4, k0, k1, hik⟩ := HBoth.out _ _ h2; obtain ⟨j0, j1, j2, j3, j4, j5, j6, j7, j8, j9, j10, j11⟩ := lies12z k1; have fz := freeL k1; have HB4 := Lib.hid hb4; have HL1 := Lib.hid k1; clear h2 hb4 k0 k1 hik)
    obtain ⟨p1, p2⟩ := put12z HL1.out
    obtain ⟨r0, r1, r2, r3, r4, r5, r6, r7, r8, r9, r10, r11⟩ := lies12z p1
    refine bodyPost_ret (v := .tuple #[zeroD, .int .i64 (Q.e : Int)]) (by simp [results, Tryz.results214, go_sem, r0, r1, r2, r3, r4, r5, r6, r7, r8, r9, r10, r11]) rfl ?_
    rw [HV.out]
    exact ⟨nilS, rfl, .inl ⟨_, rfl, rfl⟩, ⟨_, _, _, rfl⟩, (fun j hj => nomatch hj), HB4.out.grown p2 (Nat.le_trans Hz0.out (Nat.le_trans (Nat.le_of_lt (Nat.lt_succ_self _)) (Nat.le_of_lt HL1.out.lt))) (fun j hj => by injection hj with hj; have := Hz0.out; omega)⟩
end Go.Proofs.YtadeflehdfmilaaGreat
namespace Go.Proofs.YtadeflehdfmilaaGreat
open Go.RowKit Go.Maps
set_option linter.unusedVariables false
set_option maxRecDepth 100000

theorem bs_take (S : ByteArray) (e : Nat) (he : e ≤ S.size) : bs (S.extract 0 e) = (bs S).take e := by
  unfold bs
  rw [ByteArray.data_extract, Array.toList_extract]
  simp [List.extract_eq_take_drop]
set_option maxHeartbeats 4000000 in
theorem Read_anyD (S : ByteArray) (a e t : Int) (w : World) (hS : S.size ≤ 1099511627776) :
    Calls Tryz.prog 170 #[.string S, .int .i64 a, .int .i64 e, .int .i64 t] w (DataR w.heap.size w (readD (bs S) a e t)) := by
  obtain ⟨W, hW⟩ : ∃ W, W = w.alloc (.cells #[.bool false, .int .u64 0, .int .u64 0, .string ⟨#[]⟩, .string ⟨#[]⟩, .int .u32 0, .int .u32 0, .int .u32 0, .int .u32 0, .int .u32 0, .slice none 0 0, .string ⟨#[]⟩] 30) := ⟨_, rfl⟩
  have hb0 : Below w.heap.size w W := by rw [hW]; exact (Below.refl _ _).alloc (Nat.le_refl _) _
  have l0 : Lies W w.heap.size 30 (cellsD md0 nilS) := by rw [hW]; exact Lies.new w _ _
  have HB0 := Lib.hid hb0
  have HL0 := Lib.hid l0
  have HNx : Hid (∀ w1, Below W.heap.size W w1 → Lies w1 w.heap.size 30 (cellsD md0 nilS) ∧ Below w.heap.size w w1) := Lib.hid fun w1 hb => ⟨l0.next hb, hb0.trans (hb.mono hb0.size)⟩
  have hlt := l0.lt
  clear hb0 l0
  cases ht : isT t
  · have HV : Hid (readD (bs S) a e t = (2, md0)) := Lib.hid (by unfold readD; rw [ht]; rfl)
    have HK := Lib.hid (kindOf_no t W ht)
    clear ht
    go_enter Tryz.func170, Tryz.ntmps170
    go_upto_region 1 with (fail)
    rw [← hW]
    clear hW
    go_wp2_with (go_at_call 84; (with_reducible refine HK.out.mono ?_); rintro e w1 ⟨rfl, hb1⟩; have hba := hb1.alloc hb1.size (.cells #[.nilFunc, .nilFunc, .nilFunc, .nilFunc, .nilFunc] 146); obtain ⟨k1, hbw⟩ := HNx.out _ hba; obtain ⟨j0, j1, j2, j3, j4, j5, j6, j7, j8, j9, j10, j11⟩ := lies12z k1; have fz := freeL k1; have HL1 := Lib.hid k1; have HB1 := Lib.hid hbw; clear hb1 hba k1 hbw)
    obtain ⟨p1, p2⟩ := put12z HL1.out
    obtain ⟨r0, r1, r2, r3, r4, r5, r6, r7, r8, r9, r10, r11⟩ := lies12z p1
    refine bodyPost_ret (v := .tuple #[zeroD, .int .i64 2]) (by simp [results, Tryz.results170, go_sem, r0, r1, r2, r3, r4, r5, r6, r7, r8, r9, r10, r11]) rfl ?_
    rw [HV.out]
    exact ⟨nilS, rfl, .inl ⟨_, rfl, rfl⟩, ⟨_, _, _, rfl⟩, (fun j hj => nomatch hj), HB1.out.grown p2 HB1.out.size (fun j hj => by injection hj with hj; omega)⟩
  · have HK := Lib.hid (kindOf_yes t W ht)
    by_cases h1 : e < 0 ∨ (S.size : Int) < e
    · have HV : Hid (readD (bs S) a e t = (2, md0)) := Lib.hid (by unfold readD; rw [ht, if_pos rfl, if_pos (by rw [bs_length]; exact h1)])
      have HBg := Lib.hid fun wx => begin_no S a e wx h1 hS
      clear ht h1
      go_enter Tryz.func170, Tryz.ntmps170
      go_upto_region 1 with (fail)
      rw [← hW]
      clear hW
      go_wp2_with (first | (go_at_call 84; (with_reducible refine HK.out.mono ?_); rintro e w1 ⟨x, rfl, hik, hb1⟩; have HIK := Lib.hid (hik.next (CG.alloc w1 (.cells #[fv x.a0, fv x.a1, fv x.a2, fv x.a3, fv x.a4] 146))); have HBA := Lib.hid (hb1.alloc hb1.size (.cells #[fv x.a0, fv x.a1, fv x.a2, fv x.a3, fv x.a4] 146)); clear hb1 hik) | (go_at_call 213; (with_reducible refine (HBg.out _).mono ?_); rintro e w2 ⟨rfl, hb2⟩; have hbb := HBA.out.trans (hb2.mono HBA.out.size); obtain ⟨k1, hbw⟩ := HNx.out _ hbb; obtain ⟨j0, j1, j2, j3, j4, j5, j6, j7, j8, j9, j10, j11⟩ := lies12z k1; have fz := freeL k1; have HL1 := Lib.hid k1; have HB1 := Lib.hid hbw; clear hb2 hbb k1 hbw))
      obtain ⟨p1, p2⟩ := put12z HL1.out
      obtain ⟨r0, r1, r2, r3, r4, r5, r6, r7, r8, r9, r10, r11⟩ := lies12z p1
      refine bodyPost_ret (v := .tuple #[zeroD, .int .i64 2]) (by simp [results, Tryz.results170, go_sem, r0, r1, r2, r3, r4, r5, r6, r7, r8, r9, r10, r11]) rfl ?_
      rw [HV.out]
      exact ⟨nilS, rfl, .inl ⟨_, rfl, rfl⟩, ⟨_, _, _, rfl⟩, (fun j hj => nomatch hj), HB1.out.grown p2 HB1.out.size (fun j hj => by injection hj with hj; omega)⟩
    · obtain ⟨e, rfl⟩ := Int.eq_ofNat_of_zero_le (show 0 ≤ e by omega)
      have he : e ≤ S.size := by omega
      have hR : bs (S.extract 0 e) = (bs S).take e := bs_take S e he
      have hRsz : (S.extract 0 e).size = e := by rw [ByteArray.size_extract]; omega
      obtain ⟨R, hRR⟩ : ∃ R, S.extract 0 e = R := ⟨_, rfl⟩
      have HBg := Lib.hid fun wx => begin_yes S a e wx he hS
      rw [hRR] at hR hRsz HBg
      have hRS : R.size ≤ S.size := by omega
      by_cases h2 : a < 0 ∨ (e : Int) < a
      · have HV : Hid (readD (bs S) a e t = (2, md0)) := Lib.hid (by unfold readD; rw [ht, if_pos rfl, if_neg (by rw [bs_length]; exact h1), if_pos h2])
        have hsk : seekR (bs R) 0 a = (2, 0) := seekR_bad (by rw [bs_length, hRsz]; exact h2)
        rw [hsk] at HBg
        clear ht h1 h2 hsk hR hRsz hRR hRS
        go_enter Tryz.func170, Tryz.ntmps170
        go_upto_region 1 with (fail)
        rw [← hW]
        clear hW
        go_wp2_with (first | (go_at_call 84; (with_reducible refine HK.out.mono ?_); rintro e w1 ⟨x, rfl, hik, hb1⟩; have HIK := Lib.hid (hik.next (CG.alloc w1 (.cells #[fv x.a0, fv x.a1, fv x.a2, fv x.a3, fv x.a4] 146))); have HBA := Lib.hid (hb1.alloc hb1.size (.cells #[fv x.a0, fv x.a1, fv x.a2, fv x.a3, fv x.a4] 146)); clear hb1 hik) | (go_at_call 213; (with_reducible refine (HBg.out _).mono ?_); rintro e w2 ⟨c, g, rfl, hcu⟩; have hbb := HBA.out.trans (hcu.below.mono HBA.out.size); obtain ⟨k1, hbw⟩ := HNx.out _ hbb; obtain ⟨j0, j1, j2, j3, j4, j5, j6, j7, j8, j9, j10, j11⟩ := lies12z k1; have fz := freeL k1; have HL1 := Lib.hid k1; have HB1 := Lib.hid hbw; clear hcu hbb k1 hbw))
        obtain ⟨p1, p2⟩ := put12z HL1.out
        obtain ⟨r0, r1, r2, r3, r4, r5, r6, r7, r8, r9, r10, r11⟩ := lies12z p1
        refine bodyPost_ret (v := .tuple #[zeroD, .int .i64 2]) (by simp [results, Tryz.results170, go_sem, r0, r1, r2, r3, r4, r5, r6, r7, r8, r9, r10, r11]) rfl ?_
        rw [HV.out]
        exact ⟨nilS, rfl, .inl ⟨_, rfl, rfl⟩, ⟨_, _, _, rfl⟩, (fun j hj => nomatch hj), HB1.out.grown p2 HB1.out.size (fun j hj => by injection hj with hj; omega)⟩
      · obtain ⟨a, rfl⟩ := Int.eq_ofNat_of_zero_le (show 0 ≤ a by omega)
        have HV : Hid (readD (bs S) (a : Int) e t = allR (kindK t) (bs S) (bs R) a) := Lib.hid (by
          unfold readD allR
          rw [ht, if_pos rfl, if_neg (by rw [bs_length]; exact h1), if_neg h2, Int.toNat_natCast, Int.toNat_natCast, ← hR, bs_length R, hRsz])
        have hsk : seekR (bs R) 0 (a : Int) = (0, a) := seekR_some (by rw [bs_length, hRsz]; omega)
        rw [hsk] at HBg
        have HRA := Lib.hid fun (w0 w : World) (x : K5) (lo c g : Nat) (hk : IK lo w0 (kv x) (kindK t)) (hc : Cu w0 w c g S R a) => readAll_any x (kindK t) (kind_ok t) hk hc hS hRS
        obtain ⟨A, hA⟩ : ∃ A, allR (kindK t) (bs S) (bs R) a = A := ⟨_, rfl⟩
        rw [hA] at HV HRA
        clear ht h1 h2 hsk hR hRsz hRR hRS hA
        go_enter Tryz.func170, Tryz.ntmps170
        go_upto_region 1 with (fail)
        rw [← hW]
        clear hW
        go_wp2_with (first | (go_at_call 84; (with_reducible refine HK.out.mono ?_); rintro e w1 ⟨x, rfl, hik, hb1⟩; have HIK := Lib.hid (hik.next (CG.alloc w1 (.cells #[fv x.a0, fv x.a1, fv x.a2, fv x.a3, fv x.a4] 146))); have HBA := Lib.hid (hb1.alloc hb1.size (.cells #[fv x.a0, fv x.a1, fv x.a2, fv x.a3, fv x.a4] 146)); clear hb1 hik) | (go_at_call 213; (with_reducible refine (HBg.out _).mono ?_); rintro e w2 ⟨c, g, rfl, hcu⟩; have hkl := (Lies.new w1 146 #[fv x.a0, fv x.a1, fv x.a2, fv x.a3, fv x.a4]).next hcu.below; have u0 := hkl.cell 0; have u1 := hkl.cell 1; have u2 := hkl.cell 2; have u3 := hkl.cell 3; have u4 := hkl.cell 4; have HCu := Lib.hid hcu; have HR2 := Lib.hid (HRA.out _ _ x _ c g HIK.out hcu); clear hcu hkl) | (go_at_call 214; (with_reducible refine HR2.out.mono ?_); rintro e w4 ⟨tv, rfl, hrow, ⟨n, cap, AA, rfl⟩, hbs, hb4⟩; have hbb := HBA.out.trans ((HCu.out.below.trans hb4).mono HBA.out.size); obtain ⟨k1, hbw⟩ := HNx.out _ hbb; obtain ⟨j0, j1, j2, j3, j4, j5, j6, j7, j8, j9, j10, j11⟩ := lies12z k1; have fz := freeL k1; have HL1 := Lib.hid k1; have HB1 := Lib.hid hbw; have HRow := Lib.hid hrow; have HBs := Lib.hid hbs; clear hb4 hbb k1 hbw hrow hbs))
        obtain ⟨p1, p2⟩ := put12 (d' := A.2) (tv' := .slice AA n cap) HL1.out
        obtain ⟨r0, r1, r2, r3, r4, r5, r6, r7, r8, r9, r10, r11⟩ := lies12 p1
        refine bodyPost_ret (v := .tuple #[dataV A.2 (.slice AA n cap), .int .i64 (A.1 : Int)]) (by simp [results, Tryz.results170, go_sem, r0, r1, r2, r3, r4, r5, r6, r7, r8, r9, r10, r11]) rfl ?_
        rw [HV.out]
        have hba : w.heap.size + 1 ≤ (w1.alloc (.cells #[fv x.a0, fv x.a1, fv x.a2, fv x.a3, fv x.a4] 146)).heap.size := Nat.le_trans hlt HBA.out.size
        refine ⟨_, rfl, HRow.out.far p2.size fun j hj => p2.block j ?_ (fun e => ?_), ⟨_, _, _, rfl⟩, fun j hj => ?_, HB1.out.grown p2 HB1.out.size (fun j hj => by injection hj with hj; omega)⟩
        · rcases HRow.out with ⟨_, e1, _⟩ | ⟨g9, off9, cap9, e1, h9, _⟩
          · rw [e1, blk_none] at hj; cases hj
          · rw [e1] at hj
            have : g9 = j := (blk_eq hj).2
            omega
        · injection e with e
          have := HBs.out j hj
          omega
        · have := HBs.out j hj
          omega
end Go.Proofs.YtadeflehdfmilaaGreat
