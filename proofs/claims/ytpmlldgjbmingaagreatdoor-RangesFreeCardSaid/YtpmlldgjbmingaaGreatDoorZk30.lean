/-
  Texts read one by one: the walks of addr.each. Conditions: as each theorem names them.
-/
import Derived.Test.YtpmlldgjbmingaaGreatDoorZk23
import Derived.Test.YtpmlldgjbmingaaGreatDoorZk9
namespace Go.Proofs.YtpmlldgjbmingaaGreatDoor
open Go.RowKit
set_option linter.unusedVariables false

/-- append of one value onto a row that the call owns. -/
theorem wpList_append1 {P : Program} {te ts : TypeId} {z : Value} {nb : Nat} (us : P.underlying ts = some (.slice te)) (info : (P.info? te).map (fun i => (i.zero, i.size, i.bytes)) = some (some z, 1, nb)) (hz1 : z.cells.size = 1) (hnb : nb ≤ 16)
    (w : World) {ops : Array Oper} {rest : List Oper} {o : Oper} {a : Act} {Q : Exit → Act → World → Prop} (hgd : o.guard = none) (s x : Operand)
    (ho : o.op = .call { callee := .builtin .append, args := #[s, x], argTypes := #[ts, ts] })
    (base : Nat) (v : Value) (L : List Value) (hs : a.eval s = v) (hown : w.ownsRow base te 1 v L.length L)
    (ad : Addr) (t : Value) (ht : t.oneCell' = true) (hx : a.eval x = .slice (some ad) 1 1) (hds : ∀ j u, [t][j]? = some u → w.cell? (ad.add j) = some u) (hlen : L.length ≤ 1099511627776) (hbase : base ≤ w.heap.size)
    (h : ∀ v' w', w'.ownsRow base te 1 v' (L ++ [t]).length (L ++ [t]) → w.grownBy w' v.ownBlock → wpList P ops Q rest (a.put o.dst v') w') :
    wpList P ops Q (o :: rest) a w := by
  obtain ⟨i, hi, hz, hsz, hby⟩ := info_parts info
  refine wpList_append_own_at w hgd s x ts ho base te i z 1 nb us hi hz hsz hby hz1 (by decide) v L.length L hs hown ad 1 1 [t] hx (by simp) hds (fun u hu => ?_) (by unfold maxLen; omega) ?_ hbase ?_
  · rw [List.mem_singleton.1 hu]
    exact ht
  · have : (L.length + 1) * nb ≤ (1099511627776 + 1) * 16 := Nat.mul_le_mul (by omega) hnb
    omega
  · intro v' w' h1 h2 _ h4
    refine h v' w' ?_ h2
    rw [List.length_append]
    exact h1
theorem cell1 (w : World) (te : TypeId) (t : Value) : ∀ j u, [t][j]? = some u → (w.alloc (.cells #[t] te)).cell? ((⟨w.heap.size, 0, none⟩ : Addr).add j) = some u := by
  intro j u hu
  rw [add_offA, Nat.zero_add]
  have := Lies.cell (Lies.new w te #[t]) j
  rw [this, ← Array.getElem?_toList]
  exact hu
theorem own_shape1 {w : World} {base n : Nat} {te : TypeId} {v : Value} {L : List Value} (h : w.ownsRow base te 1 v n L) : ∃ A cap, v = .slice A n cap := by
  rcases h.2 with ⟨rfl, hn⟩ | ⟨g, cap, cur, rfl, _⟩
  · exact ⟨none, 0, by rw [hn]⟩
  · exact ⟨_, cap, rfl⟩

theorem eachO_cons (f : List UInt8 → Option Nat) (x : List UInt8) (L : List (List UInt8)) : eachO f (x :: L) = match f x with | none => none | some v => match eachO f L with | none => none | some l => some (v :: l) := rfl
theorem eachO_snoc {f : List UInt8 → Option Nat} {x : List UInt8} {v : Nat} (hx : f x = some v) : ∀ {L : List (List UInt8)} {l : List Nat}, eachO f L = some l → eachO f (L ++ [x]) = some (l ++ [v])
  | [], l, h => by
    injection h with h
    subst h
    show (match f x with | none => none | some v => _) = _
    rw [hx]
    rfl
  | y :: L, l, h => by
    rw [eachO_cons] at h
    rw [List.cons_append, eachO_cons]
    cases hy : f y with
    | none => rw [hy] at h; cases h
    | some u =>
      rw [hy] at h
      simp only at h ⊢
      cases hl : eachO f L with
      | none => rw [hl] at h; cases h
      | some m =>
        rw [hl] at h
        injection h with h
        subst h
        rw [eachO_snoc hx hl]
        rfl
theorem eachO_bad {f : List UInt8 → Option Nat} {x : List UInt8} (hx : f x = none) : ∀ {L : List (List UInt8)}, x ∈ L → eachO f L = none
  | [], h => by cases h
  | y :: L, h => by
    rw [eachO_cons]
    rcases List.mem_cons.1 h with rfl | h
    · rw [hx]
    · cases hy : f y with
      | none => rfl
      | some u =>
        simp only
        rw [eachO_bad hx h]
theorem eachO_len {f : List UInt8 → Option Nat} : ∀ {L : List (List UInt8)} {l : List Nat}, eachO f L = some l → l.length = L.length
  | [], l, h => by injection h with h; subst h; rfl
  | y :: L, l, h => by
    rw [eachO_cons] at h
    cases hy : f y with
    | none => rw [hy] at h; cases h
    | some u =>
      rw [hy] at h
      simp only at h
      cases hl : eachO f L with
      | none => rw [hl] at h; cases h
      | some m =>
        rw [hl] at h
        injection h with h
        subst h
        rw [List.length_cons, List.length_cons, eachO_len hl]
/-- What each hands back. -/
def EachR (te : TypeId) (k : IntKind) (o : Option (List Nat)) (w : World) (e : Ending) (w' : World) : Prop :=
  Below w.heap.size w w' ∧ match o with
    | none => e = .returned (.tuple #[.slice none 0 0, .bool false])
    | some l => ∃ v, e = .returned (.tuple #[v, .bool true]) ∧ w'.ownsRow w.heap.size te 1 v (l.map fun n : Nat => Value.int k (n : Int)).length (l.map fun n : Nat => Value.int k (n : Int))
def EaRel (te : TypeId) (kd : IntKind) (f : List UInt8 → Option Nat) (L : List ByteArray) (w : World) (v i : Value) (wr : World) : Prop :=
  ∃ (k : Nat) (l : List Nat), i = .int .i64 k ∧ k ≤ L.length ∧ eachO f ((L.take k).map bs) = some l ∧ wr.ownsRow w.heap.size te 1 v (l.map fun n : Nat => Value.int kd (n : Int)).length (l.map fun n : Nat => Value.int kd (n : Int)) ∧ Below w.heap.size w wr
theorem infoB8 : (Tryz.prog.info? 5).map (fun i => (i.zero, i.size, i.bytes)) = some (some (.int .u8 0), 1, 1) := by kernel_rfl
theorem infoU16 : (Tryz.prog.info? 66).map (fun i => (i.zero, i.size, i.bytes)) = some (some (.int .u16 0), 1, 2) := by kernel_rfl
theorem own_below {w w' : World} {base n : Nat} {te : TypeId} {v : Value} {L : List Value} (h : w.ownsRow base te 1 v n L) (hb : Below w.heap.size w w') : w'.ownsRow base te 1 v n L :=
  World.ownsRow.kept (row := none) h ⟨hb.os, hb.tape, hb.output, hb.size, fun j hj _ => hb.block j (by omega)⟩ (by cases hv : v.ownBlock <;> simp)
theorem below_own {w w' : World} {base n : Nat} {te : TypeId} {v : Value} {L : List Value} (hg : w.grownBy w' v.ownBlock) (h : w.ownsRow base te 1 v n L) (hs : base ≤ w.heap.size) : Below base w w' :=
  (Below.refl base w).grown hg (by omega) fun k hk => by have := (World.ownsRow.lt h k hk).1; omega
set_option maxHeartbeats 1000000 in
theorem eachN_any (L : List ByteArray) (v : Value) (w : World) (h : RowE Value.string w v L) (hl : L.length ≤ 1000000) (hs : ∀ s ∈ L, s.size ≤ 1000000) (hG : Ground w) :
    Calls Tryz.prog 118 #[v, .func (.func 119) #[] #[]] w (EachR 5 .u8 (eachO numO (L.map bs)) w) := by
  have HRow := Lib.hid h
  have HGr := Lib.hid hG
  have HS := Lib.hid hs
  have HF := Lib.hid (fun (s : ByteArray) (wx : World) (hz : s.size ≤ 1000000) (hg : Ground wx) => number_any s wx (by omega) hg)
  obtain ⟨A, cap, rfl, hcap, hfit⟩ := h.shape
  obtain ⟨i0, hi, hz0, hz1, hz2⟩ := info_parts infoB8
  obtain ⟨w1, hmk, hown, hg⟩ := run_make_own w w.heap.size 74 5 i0 (.int .u8 0) 1 Tryz.underlying74 hi hz0 hz1 .i64 .i64 L.length (by rw [hz2]; omega) (by unfold maxLen; omega) (Nat.le_refl _)
  have HR0 : Hid (EaRel 5 .u8 numO L w (.slice (some ⟨w.heap.size, 0, none⟩) 0 L.length) (.int .i64 0) w1) := Lib.hid ⟨0, [], rfl, Nat.zero_le _, rfl, hown, (Below.refl w.heap.size w).grown hg (Nat.le_refl _) (by simp)⟩
  clear hi hz0 hz1 hz2 hown hg hG h hs
  go_enter Tryz.func118, Tryz.ntmps118
  go_wp2
  clear hmk
  go_loopw [6, 16] (fun v i wr => EaRel 5 .u8 numO L w v i wr) (fun _ i _ => L.length - (intOf i).toNat)
  case atStart => exact HR0.out
  case round =>
    clear HR0
    obtain ⟨k, l, rfl, hk, hea, hown, hb⟩ := hrel
    rcases Nat.lt_or_ge k L.length with hlt | hge
    · obtain ⟨g, off, c2, hsl, hat⟩ := (HRow.out.next hb).at' (fun e => by rw [e] at hlt; simp at hlt)
      simp only [Value.slice.injEq, true_and] at hsl
      obtain ⟨rfl, rfl⟩ := hsl
      have hcell : wr.cell? ⟨g, off + k, none⟩ = some (.string L[k]) := hat.cell k hlt
      have HD := Lib.hid (HF.out L[k] wr (HS.out _ (List.getElem_mem hlt)) (HGr.out.next hb))
      have HO := Lib.hid hown
      have HB := Lib.hid hb
      have HE := Lib.hid hea
      obtain ⟨A2, c3, rfl⟩ := own_shape1 hown
      have hll := eachO_len hea
      rw [List.length_map, List.length_take] at hll
      clear hat hown hb hea
      cases hf : numO (bs L[k]) with
      | none =>
        rw [hf] at HD
        simp only [optV] at HD
        have HN := Lib.hid (eachO_bad hf (List.mem_map.2 ⟨L[k], List.getElem_mem hlt, rfl⟩))
        clear hf
        go_wp2_with (first | (go_at_call 119; (with_reducible refine HD.out.mono ?_); rintro e w2 ⟨rfl, hb2⟩; have HB2 := Lib.hid hb2; clear hb2) | fail)
        go_ret2
        refine ⟨HB.out.trans (HB2.out.mono HB.out.size), ?_⟩
        rw [HN.out]
        rfl
      | some n =>
        rw [hf] at HD
        simp only [optV] at HD
        have HT : Hid (eachO numO ((L.take (k + 1)).map bs) = some (l ++ [n])) := Lib.hid (by
          rw [List.take_succ_eq_append_getElem hlt, List.map_append]
          exact eachO_snoc hf HE.out)
        clear hf
        obtain ⟨M, hM⟩ : ∃ M, M = l.map fun n : Nat => Value.int .u8 (n : Int) := ⟨_, rfl⟩
        have hMl : M.length ≤ 1099511627776 := by rw [hM, List.length_map]; omega
        have hM1 : (l ++ [n]).map (fun n : Nat => Value.int .u8 (n : Int)) = M ++ [.int .u8 (n : Int)] := by rw [hM]; simp
        rw [← hM] at HO ⊢
        clear hM
        have HM1 := Lib.hid hM1
        clear hM1 hll
        go_wp2_with (first | (go_at_call 119; (with_reducible refine HD.out.mono ?_); rintro e w2 ⟨rfl, hb2⟩; have HB2 := Lib.hid hb2; have HO2 := Lib.hid (own_below HO.out hb2); clear hb2) | (at_builtin; refine wpList_append1 Tryz.underlying74 infoB8 rfl (by decide) _ rfl (.tmp 28) (.tmp 30) rfl w.heap.size _ M rfl (World.ownsRow.alloc HO2.out _) ⟨w2.heap.size, 0, none⟩ (.int .u8 (n : Int)) rfl rfl (cell1 _ _ _) hMl (le_alloc (Nat.le_trans HB.out.size HB2.out.size) _) ?_; intro v3 w3 hown3 hg3; have HG3 := Lib.hid hg3; have HO3 := Lib.hid hown3; clear hg3 hown3) | fail)
        go_roundw
        case rel =>
          have hb1 := HB.out.trans (HB2.out.mono HB.out.size)
          exact ⟨k + 1, l ++ [n], by go_num, by omega, HT.out, by rw [HM1.out]; exact HO3.out, (hb1.alloc hb1.size _).trans (below_own HG3.out (World.ownsRow.alloc HO2.out _) (le_alloc hb1.size _))⟩
        case measure => simp [intOf]; omega
    · obtain rfl : k = L.length := by omega
      rw [List.take_of_length_le (Nat.le_refl _)] at hea
      have HE := Lib.hid hea
      have HO := Lib.hid hown
      have HB := Lib.hid hb
      obtain ⟨A2, c3, rfl⟩ := own_shape1 hown
      clear hown hb hea
      go_wp2
      go_ret2
      refine ⟨HB.out, ?_⟩
      rw [HE.out]
      exact ⟨_, rfl, HO.out⟩
end Go.Proofs.YtpmlldgjbmingaaGreatDoor
