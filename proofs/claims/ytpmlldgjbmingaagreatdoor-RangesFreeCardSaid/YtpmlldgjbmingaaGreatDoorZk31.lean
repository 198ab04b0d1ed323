/-
  Rows of texts read as addresses: the walks of addr.each at digits and groups, split, ofNumbers, ofDigits, readElder. Conditions: as each theorem names them. Digits read as a newer address; texts split; an elder text read: the walks of addr.ofDigits, split, readElder. Conditions: as each theorem names them.
-/
import Derived.Test.YtpmlldgjbmingaaGreatDoorZk30
import Derived.Test.YtpmlldgjbmingaaGreatDoorZk6
namespace Go.Proofs.YtpmlldgjbmingaaGreatDoor
open Go.RowKit
set_option linter.unusedVariables false

set_option maxHeartbeats 1000000 in
theorem eachG_any (L : List ByteArray) (v : Value) (w : World) (h : RowE Value.string w v L) (hl : L.length ≤ 1000000) (hs : ∀ s ∈ L, s.size ≤ 1000000) (hG : Ground w) :
    Calls Tryz.prog 96 #[v, .func (.func 97) #[] #[]] w (EachR 66 .u16 (eachO (hexO 4) (L.map bs)) w) := by
  have HRow := Lib.hid h
  have HGr := Lib.hid hG
  have HS := Lib.hid hs
  have HF := Lib.hid (fun (s : ByteArray) (wx : World) (hz : s.size ≤ 1000000) (hg : Ground wx) => group_any s wx (by unfold maxLen; omega) hg)
  obtain ⟨A, cap, rfl, hcap, hfit⟩ := h.shape
  obtain ⟨i0, hi, hz0, hz1, hz2⟩ := info_parts infoU16
  obtain ⟨w1, hmk, hown, hg⟩ := run_make_own w w.heap.size 110 66 i0 (.int .u16 0) 1 Tryz.underlying110 hi hz0 hz1 .i64 .i64 L.length (by rw [hz2]; omega) (by unfold maxLen; omega) (Nat.le_refl _)
  have HR0 : Hid (EaRel 66 .u16 (hexO 4) L w (.slice (some ⟨w.heap.size, 0, none⟩) 0 L.length) (.int .i64 0) w1) := Lib.hid ⟨0, [], rfl, Nat.zero_le _, rfl, hown, (Below.refl w.heap.size w).grown hg (Nat.le_refl _) (by simp)⟩
  clear hi hz0 hz1 hz2 hown hg hG h hs
  go_enter Tryz.func96, Tryz.ntmps96
  go_wp2
  clear hmk
  go_loopw [6, 16] (fun v i wr => EaRel 66 .u16 (hexO 4) L w v i wr) (fun _ i _ => L.length - (intOf i).toNat)
  case atStart => exact HR0.out
  case round =>
    clear HR0
    obtain ⟨k, l, rfl, hk, hea, hown, hb⟩ := hrel
    rcases Nat.lt_or_ge k L.length with hlt | hge
    · obtain ⟨g, off, c2, hsl, hat⟩ := (HRow.out.next hb).at' (fun e => by rw [e] at hlt; simp at hlt)
      simp only [Value.slice.injEq, true_and] at hsl
      obtain ⟨rfl, rfl⟩ := hsl
      have hcell : wr.cell? ⟨g, off + k, none⟩ = some (.string L[k]) := hat.cell k hlt
      have HD := Lib.hid (HF.out L[k] wr (HS.out _ (List.getElem_mem hlt)) (HGr.out.next hb))
      have HO := Lib.hid hown
      have HB := Lib.hid hb
      have HE := Lib.hid hea
      obtain ⟨A2, c3, rfl⟩ := own_shape1 hown
      have hll := eachO_len hea
      rw [List.length_map, List.length_take] at hll
      clear hat hown hb hea
      cases hf : (hexO 4) (bs L[k]) with
      | none =>
        rw [hf] at HD
        simp only [optV] at HD
        have HN := Lib.hid (eachO_bad hf (List.mem_map.2 ⟨L[k], List.getElem_mem hlt, rfl⟩))
        clear hf
        go_wp2_with (first | (go_at_call 97; (with_reducible refine HD.out.mono ?_); rintro e w2 ⟨rfl, hb2⟩; have HB2 := Lib.hid hb2; clear hb2) | fail)
        go_ret2
        refine ⟨HB.out.trans (HB2.out.mono HB.out.size), ?_⟩
        rw [HN.out]
        rfl
      | some n =>
        rw [hf] at HD
        simp only [optV] at HD
        have HT : Hid (eachO (hexO 4) ((L.take (k + 1)).map bs) = some (l ++ [n])) := Lib.hid (by
          rw [List.take_succ_eq_append_getElem hlt, List.map_append]
          exact eachO_snoc hf HE.out)
        clear hf
        obtain ⟨M, hM⟩ : ∃ M, M = l.map fun n : Nat => Value.int .u16 (n : Int) := ⟨_, rfl⟩
        have hMl : M.length ≤ 1099511627776 := by rw [hM, List.length_map]; omega
        have hM1 : (l ++ [n]).map (fun n : Nat => Value.int .u16 (n : Int)) = M ++ [.int .u16 (n : Int)] := by rw [hM]; simp
        rw [← hM] at HO ⊢
        clear hM
        have HM1 := Lib.hid hM1
        clear hM1 hll
        go_wp2_with (first | (go_at_call 97; (with_reducible refine HD.out.mono ?_); rintro e w2 ⟨rfl, hb2⟩; have HB2 := Lib.hid hb2; have HO2 := Lib.hid (own_below HO.out hb2); clear hb2) | (at_builtin; refine wpList_append1 Tryz.underlying110 infoU16 rfl (by decide) _ rfl (.tmp 28) (.tmp 30) rfl w.heap.size _ M rfl (World.ownsRow.alloc HO2.out _) ⟨w2.heap.size, 0, none⟩ (.int .u16 (n : Int)) rfl rfl (cell1 _ _ _) hMl (le_alloc (Nat.le_trans HB.out.size HB2.out.size) _) ?_; intro v3 w3 hown3 hg3; have HG3 := Lib.hid hg3; have HO3 := Lib.hid hown3; clear hg3 hown3) | fail)
        go_roundw
        case rel =>
          have hb1 := HB.out.trans (HB2.out.mono HB.out.size)
          exact ⟨k + 1, l ++ [n], by go_num, by omega, HT.out, by rw [HM1.out]; exact HO3.out, (hb1.alloc hb1.size _).trans (below_own HG3.out (World.ownsRow.alloc HO2.out _) (le_alloc hb1.size _))⟩
        case measure => simp [intOf]; omega
    · obtain rfl : k = L.length := by omega
      rw [List.take_of_length_le (Nat.le_refl _)] at hea
      have HE := Lib.hid hea
      have HO := Lib.hid hown
      have HB := Lib.hid hb
      obtain ⟨A2, c3, rfl⟩ := own_shape1 hown
      clear hown hb hea
      go_wp2
      go_ret2
      refine ⟨HB.out, ?_⟩
      rw [HE.out]
      exact ⟨_, rfl, HO.out⟩

theorem eachO_lt {f : List UInt8 → Option Nat} {m : Nat} (hf : ∀ x v, f x = some v → v < m) : ∀ {L : List (List UInt8)} {l : List Nat}, eachO f L = some l → ∀ c ∈ l, c < m
  | [], l, h, c, hc => by injection h with h; subst h; cases hc
  | y :: L, l, h, c, hc => by
    rw [eachO_cons] at h
    cases hy : f y with
    | none => rw [hy] at h; cases h
    | some u =>
      rw [hy] at h
      simp only at h
      cases hl : eachO f L with
      | none => rw [hl] at h; cases h
      | some m' =>
        rw [hl] at h
        injection h with h
        subst h
        rcases List.mem_cons.1 hc with rfl | hc
        · exact hf _ _ hy
        · exact eachO_lt hf hl c hc
theorem numO_lt {s : List UInt8} {v : Nat} (h : numO s = some v) : v < 256 := by
  unfold numO at h
  split at h
  · rename_i u hu
    have := parse8_le hu
    split at h
    · injection h with h; omega
    · cases h
  · cases h
theorem bytes_of {l : List Nat} (h : ∀ c ∈ l, c < 256) : (l.map fun n : Nat => Value.int .u8 (n : Int)) = (l.map UInt8.ofNat).map B ∧ nats (l.map UInt8.ofNat) = l := by
  constructor
  · rw [List.map_map]
    refine List.map_congr_left fun c hc => ?_
    show _ = B (UInt8.ofNat c)
    unfold B
    rw [ofNat_val, Nat.mod_eq_of_lt (h c hc)]
  · unfold nats
    rw [List.map_map]
    conv => rhs; rw [← List.map_id l]
    refine List.map_congr_left fun c hc => ?_
    show (UInt8.ofNat c).toNat = c
    rw [ofNat_val, Nat.mod_eq_of_lt (h c hc)]
theorem row_bytesN {w : World} {base : Nat} {v : Value} {l : List Nat} (h : ∀ c ∈ l, c < 256) (hown : w.ownsRow base 5 1 v (l.map fun n : Nat => Value.int .u8 (n : Int)).length (l.map fun n : Nat => Value.int .u8 (n : Int))) : RowE B w v (l.map UInt8.ofNat) := by
  rw [(bytes_of h).1] at hown
  have e : ((l.map UInt8.ofNat).map B).length = (l.map UInt8.ofNat).length := by simp
  rw [e] at hown
  exact RowE.of_own hown
/-- What a reading of an address hands back. -/
def optA (o : Option Ad) : Value := match o with
  | some a => .tuple #[av a, .bool true]
  | none => .tuple #[av noA, .bool false]
set_option maxHeartbeats 1000000 in
theorem ofNumbers_any (L : List ByteArray) (v : Value) (w : World) (h : RowE Value.string w v L) (hl : L.length ≤ 1000000) (hs : ∀ s ∈ L, s.size ≤ 1000000) (hG : Ground w) :
    Calls Tryz.prog 73 #[v] w fun e w' => e = .returned (optA (ofNumO (L.map bs))) ∧ Below w.heap.size w w' := by
  obtain ⟨w0, hw0⟩ : ∃ w0, w0 = w.alloc (.cells #[.bool false, .int .u64 0, .int .u64 0] 24) := ⟨_, rfl⟩
  have hb0 : Below w.heap.size w w0 := by rw [hw0]; exact (Below.refl _ _).alloc (Nat.le_refl _) _
  have HB0 := Lib.hid hb0
  have HL0 : Hid (AdB w0 w.heap.size false 0 0) := Lib.hid (by rw [hw0]; exact Lies.new _ _ _)
  have HE := Lib.hid (eachN_any L v w0 (h.next hb0) hl hs (hG.next hb0))
  obtain ⟨A, cap, rfl, _⟩ := h.shape
  clear hb0 h hs hG
  have hunf : ofNumO (L.map bs) = match eachO numO (L.map bs) with | none => none | some l => if l.length = 4 then some (elderA l) else none := rfl
  rw [hunf]
  clear hunf
  cases hE : eachO numO (L.map bs) with
  | none =>
    rw [hE] at HE
    go_enter Tryz.func73, Tryz.ntmps73
    go_wp2_with (first | (go_at_call 118; rw [← hw0]; (with_reducible refine HE.out.mono ?_); rintro e w1 ⟨hb1, rfl⟩; have HL1 : Hid (AdB w1 w.heap.size false 0 0) := Lib.hid (Lies.next HL0.out hb1); obtain ⟨⟨hc0, hc1, hc2⟩, hf0, hf1, hf2⟩ := HL1.out.facts; have HB1 := Lib.hid hb1; clear hb1) | fail)
    refine bodyPost_ret (ret_ad2 rfl _ _ w.heap.size noA rfl (AdB.put HL1.out _ _ _)) rfl ?_
    exact ⟨rfl, put3 (next HB0.out HB1.out) (Nat.le_refl _) _ _ _⟩
  | some l =>
    rw [hE] at HE
    have hlt := eachO_lt (m := 256) (f := numO) (fun x v h => numO_lt h) hE
    have hlt8 : ∀ c ∈ l, c < 256 := fun c hc => by have := hlt c hc; omega
    by_cases h4 : l.length = 4
    · simp only [h4, if_true]
      have HM := Lib.hid (fun (v' : Value) (wx : World) (hx : RowE B wx v' (l.map UInt8.ofNat)) => elder_any (l.map UInt8.ofNat) v' wx hx (by rw [List.length_map]; omega))
      rw [(bytes_of hlt8).2] at HM
      simp only [av, elderA] at HM
      have HX := Lib.hid hlt8
      clear hlt hlt8 hE
      go_enter Tryz.func73, Tryz.ntmps73
      go_wp2_with (first | (go_at_call 118; rw [← hw0]; (with_reducible refine HE.out.mono ?_); rintro e w1 ⟨hb1, v1, rfl, hown⟩; have HR1 := Lib.hid (row_bytesN HX.out hown); obtain ⟨A1, c1, rfl⟩ := own_shape1 hown; rw [List.length_map, h4] at HR1 ⊢; have HL1 : Hid (AdB w1 w.heap.size false 0 0) := Lib.hid (Lies.next HL0.out hb1); have HB1 := Lib.hid hb1; clear hb1 hown) | (go_at_call 63; (with_reducible refine (HM.out _ _ HR1.out).mono ?_); rintro e w2 ⟨rfl, hb2⟩; have HL2 : Hid (AdB w2 w.heap.size false 0 0) := Lib.hid (Lies.next HL1.out hb2); obtain ⟨⟨hc0, hc1, hc2⟩, hf0, hf1, hf2⟩ := HL2.out.facts; have HB2 := Lib.hid hb2; clear hb2) | fail)
      refine bodyPost_ret (ret_ad2 rfl _ _ w.heap.size (elderA l) rfl (AdB.put HL2.out _ _ _)) rfl ?_
      exact ⟨rfl, put3 (next HB0.out (next HB1.out HB2.out)) (Nat.le_refl _) _ _ _⟩
    · simp only [h4, if_false]
      have h4b : ((l.length : Int) == 4) = false := by simp; omega
      clear hlt hlt8 hE
      go_enter Tryz.func73, Tryz.ntmps73
      go_wp2_with (first | (go_at_call 118; rw [← hw0]; (with_reducible refine HE.out.mono ?_); rintro e w1 ⟨hb1, v1, rfl, hown⟩; obtain ⟨A1, c1, rfl⟩ := own_shape1 hown; rw [List.length_map]; have HL1 : Hid (AdB w1 w.heap.size false 0 0) := Lib.hid (Lies.next HL0.out hb1); obtain ⟨⟨hc0, hc1, hc2⟩, hf0, hf1, hf2⟩ := HL1.out.facts; have HB1 := Lib.hid hb1; clear hb1 hown) | fail)
      refine bodyPost_ret (ret_ad2 rfl _ _ w.heap.size noA rfl (AdB.put HL1.out _ _ _)) rfl ?_
      exact ⟨rfl, put3 (next HB0.out HB1.out) (Nat.le_refl _) _ _ _⟩
end Go.Proofs.YtpmlldgjbmingaaGreatDoor
namespace Go.Proofs.YtpmlldgjbmingaaGreatDoor
open Go.RowKit
set_option linter.unusedVariables false

theorem extract_size_le (s : ByteArray) (a b : Nat) : (s.extract a b).size ≤ s.size := by
  rw [← bs_length, bs_extract, List.length_take, List.length_drop, bs_length]
  omega
theorem splitB_size (sep : ByteArray) : ∀ (k : Nat) (s x : ByteArray), x ∈ Lib.splitB sep 0 k s → x.size ≤ s.size
  | 0, s, x, h => by
    unfold Lib.splitB at h
    rw [List.mem_singleton.1 h]
    exact Nat.le_refl _
  | k + 1, s, x, h => by
    unfold Lib.splitB at h
    split at h
    · rw [List.mem_singleton.1 h]
      exact Nat.le_refl _
    · rcases List.mem_cons.1 h with rfl | h
      · exact extract_size_le s _ _
      · exact Nat.le_trans (splitB_size sep k _ x h) (extract_size_le s _ _)
/-- What split hands back. -/
def SplR (w : World) (s : ByteArray) (L : List (List UInt8)) (n : Nat) (e : Ending) (w' : World) : Prop :=
  ∃ v Ls, e = .returned v ∧ RowE Value.string w' v Ls ∧ Ls.map bs = L ∧ Ls.length ≤ n + 1 ∧ (∀ x ∈ Ls, x.size ≤ s.size) ∧ Below w.heap.size w w'
theorem SplitN_any (s : ByteArray) (c : UInt8) (n : Nat) (w : World) (hs : s.size ≤ 1000000) (hn : n ≤ 1000) (hG : Ground w) :
    Calls Tryz.prog 133 #[.string s, .string ⟨#[c]⟩, .int .i64 ((n : Int) + 1)] w (SplR w s (Lib.splitN (bs s) [c] (n + 1)) n) := by
  obtain ⟨m, hm⟩ := hG.maxlen
  have h := Tryz.strings_SplitN s ⟨#[c]⟩ (n + 1) m w (by omega) hm (by show 1 ≤ 1; decide) (by omega) (by omega)
  rw [show (((n + 1 : Nat) : Int)) = (n : Int) + 1 by omega] at h
  refine h.mono ?_
  rintro e w' ⟨rfl, rfl⟩
  have hl := Lib.splitB_length_le ⟨#[c]⟩ 0 (min (n + 1) (s.size + 1) - 1) s
  refine ⟨_, Lib.splitB ⟨#[c]⟩ 0 (min (n + 1) (s.size + 1) - 1) s, rfl, ?_, ?_, by omega, fun x hx => splitB_size _ _ _ _ hx, (Below.refl _ _).alloc (Nat.le_refl _) _⟩
  · refine .inr ⟨w.heap.size, 0, min (n + 1) (s.size + 1), rfl, by rw [size1]; omega, by omega, by unfold maxLen; omega, fun j hj => ?_⟩
    rw [Nat.zero_add, Lies.cell (Lies.new w _ _) j]
    unfold Lib.cellsOf
    rw [List.getElem?_toArray, List.getElem?_append_left (by rw [List.length_map]; exact hj), List.getElem?_map, List.getElem?_eq_getElem hj]
    rfl
  · show (Lib.splitB ⟨#[c]⟩ 0 _ s).map (·.data.toList) = _
    rw [Lib.splitB_data]
    unfold Lib.splitN
    rw [show s.data.toList = bs s from rfl, bs_length]
theorem split_any (s : ByteArray) (c : UInt8) (n : Nat) (w : World) (hs : s.size ≤ 1000000) (hn : n ≤ 1000) (hG : Ground w) :
    Calls Tryz.prog 93 #[.string s, .string ⟨#[c]⟩, .int .i64 n] w (SplR w s (splitA (bs s) c n) n) := by
  by_cases h0 : bs s = []
  · have e : splitA (bs s) c n = [] := if_pos h0
    rw [e]
    have hne : s.toList.isEmpty = true := by rw [bs_toList, h0]; rfl
    go_enter Tryz.func93, Tryz.ntmps93
    go_wp2
    go_ret
    exact ⟨_, [], rfl, .inl ⟨rfl, rfl⟩, rfl, by simp, (fun x hx => by cases hx), Below.refl _ _⟩
  · have e : splitA (bs s) c n = Lib.splitN (bs s) [c] (n + 1) := if_neg h0
    rw [e]
    have hne : s.toList.isEmpty = false := by rw [bs_toList]; cases h : bs s <;> simp_all
    have HS := Lib.hid (SplitN_any s c n w hs hn hG)
    clear h0 e hG
    go_enter Tryz.func93, Tryz.ntmps93
    go_wp2_with (first | (go_at_call 133; (with_reducible refine HS.out.mono ?_); rintro e w1 ⟨v, Ls, rfl, h1, h2, h3, h4, h5⟩; have H1 := Lib.hid h1; have H2 := Lib.hid h2; have H4 := Lib.hid h4; have H5 := Lib.hid h5; obtain ⟨A, c1, rfl, _⟩ := h1.shape; clear h1 h2 h4 h5) | fail)
    go_ret
    exact ⟨_, Ls, rfl, H1.out, H2.out, h3, H4.out, H5.out⟩
set_option maxHeartbeats 1000000 in
theorem readElder_any (s : ByteArray) (w : World) (hs : s.size ≤ 1000000) (hG : Ground w) :
    Calls Tryz.prog 48 #[.string s] w fun e w' => e = .returned (optA (eldO (bs s))) ∧ Below w.heap.size w w' := by
  obtain ⟨w0, hw0⟩ : ∃ w0, w0 = w.alloc (.cells #[.bool false, .int .u64 0, .int .u64 0] 24) := ⟨_, rfl⟩
  have hb0 : Below w.heap.size w w0 := by rw [hw0]; exact (Below.refl _ _).alloc (Nat.le_refl _) _
  have HB0 := Lib.hid hb0
  have HG0 := Lib.hid (hG.next hb0)
  have HL0 : Hid (AdB w0 w.heap.size false 0 0) := Lib.hid (by rw [hw0]; exact Lies.new _ _ _)
  have HS : Hid (Calls Tryz.prog 93 #[.string s, .string ⟨#[46]⟩, .int .i64 4] w0 (SplR w0 s (splitA (bs s) 46 4) 4)) := Lib.hid (split_any s 46 4 w0 hs (by decide) (hG.next hb0))
  have HN := Lib.hid (fun (L : List ByteArray) (v : Value) (wx : World) (h1 : RowE Value.string wx v L) (h2 : L.map bs = splitA (bs s) 46 4) (h3 : L.length ≤ 4 + 1) (h4 : ∀ x ∈ L, x.size ≤ s.size) (hg : Ground wx) => ofNumbers_any L v wx h1 (by omega) (fun x hx => Nat.le_trans (h4 x hx) hs) hg)
  have hun : eldO (bs s) = ofNumO (splitA (bs s) 46 4) := rfl
  rw [hun]
  clear hb0 hG hun
  obtain ⟨R, hR⟩ : ∃ R, R = ofNumO (splitA (bs s) 46 4) := ⟨_, rfl⟩
  have HN2 : Hid (∀ (L : List ByteArray) (v : Value) (wx : World), RowE Value.string wx v L → L.map bs = splitA (bs s) 46 4 → L.length ≤ 4 + 1 → (∀ x ∈ L, x.size ≤ s.size) → Ground wx → Calls Tryz.prog 73 #[v] wx fun e w' => e = .returned (optA R) ∧ Below wx.heap.size wx w') := Lib.hid (fun L v wx h1 h2 h3 h4 hg => by
    have := HN.out L v wx h1 h2 h3 h4 hg
    rw [h2, ← hR] at this
    exact this)
  rw [← hR]
  clear HN hR
  obtain ⟨⟨six, hi, lo⟩, hAd⟩ : ∃ a : Ad, a = R.getD noA := ⟨_, rfl⟩
  have hO : optA R = .tuple #[.agg #[.bool six, .int .u64 (hi : Int), .int .u64 (lo : Int)], .bool R.isSome] := by
    cases R with
    | none => simp only [Option.getD_none, noA, Prod.mk.injEq] at hAd; obtain ⟨rfl, rfl, rfl⟩ := hAd; rfl
    | some a => simp only [Option.getD_some] at hAd; subst hAd; rfl
  rw [hO] at HN2 ⊢
  clear hAd hO
  go_enter Tryz.func48, Tryz.ntmps48
  go_wp2_with (first | (go_at_call 93; rw [← hw0]; (with_reducible refine HS.out.mono ?_); rintro e w1 ⟨v, Ls, rfl, h1, h2, h3, h4, h5⟩; have HN3 := Lib.hid (HN2.out Ls v w1 h1 h2 h3 h4 (HG0.out.next h5)); obtain ⟨A, c1, rfl, _⟩ := h1.shape; have HL1 : Hid (AdB w1 w.heap.size false 0 0) := Lib.hid (Lies.next HL0.out h5); have HB1 := Lib.hid h5; clear h1 h2 h3 h4 h5) | (go_at_call 73; (with_reducible refine HN3.out.mono ?_); rintro e w2 ⟨rfl, hb2⟩; have HL2 : Hid (AdB w2 w.heap.size false 0 0) := Lib.hid (Lies.next HL1.out hb2); obtain ⟨⟨hc0, hc1, hc2⟩, hf0, hf1, hf2⟩ := HL2.out.facts; have HB2 := Lib.hid hb2; clear hb2) | fail)
  refine bodyPost_ret (ret_ad2 rfl _ _ w.heap.size (six, hi, lo) rfl (AdB.put HL2.out _ _ _)) rfl ?_
  exact ⟨rfl, put3 (next HB0.out (next HB1.out HB2.out)) (Nat.le_refl _) _ _ _⟩
end Go.Proofs.YtpmlldgjbmingaaGreatDoor
