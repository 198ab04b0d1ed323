/-
  All hosts but some go, and those have addresses: the walk of Keep. Conditions: the laid tables' cells (Ground); at most 100,000 hosts, each no longer than 2^40.
-/
import Derived.Test.YthlabpbplikjbaaDoorZk35
import Derived.Test.YthlabpbplikjbaaDoorZk34
namespace Go.Proofs.YthlabpbplikjbaaDoor
open Go.RowKit Go.Maps Go.Shelf
set_option linter.unusedVariables false

/-- Who is held, and who was lost, once the first k hosts were given addresses. -/
def keepK (p : PoolD) (H : List Hd) (NS : List ByteArray) : Nat → List Hd × List ByteArray
  | 0 => (H, [])
  | k + 1 => match NS[k]? with
    | none => keepK p H NS k
    | some n => if keyH n ∈ (NS.take k).map keyH then keepK p H NS k else
      ((p.put (keepK p H NS k).1 n (keyH n)).1, if (p.put (keepK p H NS k).1 n (keyH n)).2.2 = 0 then (keepK p H NS k).2 else (keepK p H NS k).2 ++ [n])
section
variable {p : PoolD} {H : List Hd} {NS : List ByteArray} {k : Nat}
theorem keepK_old (hk : k < NS.length) (h : keyH NS[k] ∈ (NS.take k).map keyH) : keepK p H NS (k + 1) = keepK p H NS k := by
  show (match NS[k]? with | none => _ | some n => _) = _
  rw [List.getElem?_eq_getElem hk]
  exact if_pos h
theorem keepK_ok (hk : k < NS.length) (h : keyH NS[k] ∉ (NS.take k).map keyH) (he : (p.put (keepK p H NS k).1 NS[k] (keyH NS[k])).2.2 = 0) : keepK p H NS (k + 1) = ((p.put (keepK p H NS k).1 NS[k] (keyH NS[k])).1, (keepK p H NS k).2) := by
  show (match NS[k]? with | none => _ | some n => _) = _
  rw [List.getElem?_eq_getElem hk]
  show (if _ then _ else _) = _
  rw [if_neg h, if_pos he]
theorem keepK_lost (hk : k < NS.length) (h : keyH NS[k] ∉ (NS.take k).map keyH) (he : (p.put (keepK p H NS k).1 NS[k] (keyH NS[k])).2.2 ≠ 0) : keepK p H NS (k + 1) = ((p.put (keepK p H NS k).1 NS[k] (keyH NS[k])).1, (keepK p H NS k).2 ++ [NS[k]]) := by
  show (match NS[k]? with | none => _ | some n => _) = _
  rw [List.getElem?_eq_getElem hk]
  show (if _ then _ else _) = _
  rw [if_neg h, if_neg he]
theorem keepK_le (k : Nat) : (keepK p H NS k).2.length ≤ k := by
  induction k with
  | zero => exact Nat.le_refl _
  | succ k ih =>
    rcases Nat.lt_or_ge k NS.length with hk | hk
    · by_cases h : keyH NS[k] ∈ (NS.take k).map keyH
      · rw [keepK_old hk h]; omega
      · by_cases he : (p.put (keepK p H NS k).1 NS[k] (keyH NS[k])).2.2 = 0
        · rw [keepK_ok hk h he]; simp only; omega
        · rw [keepK_lost hk h he]; simp only [List.length_append, List.length_cons, List.length_nil]; omega
    · have : keepK p H NS (k + 1) = keepK p H NS k := by
        show (match NS[k]? with | none => _ | some n => _) = _
        rw [List.getElem?_eq_none hk]
      rw [this]; omega
theorem put_err (p : PoolD) (H : List Hd) (n : ByteArray) (k : List UInt8) : (p.put H n k).2.2 = 0 ∨ (p.put H n k).2.2 = 10 := by
  cases h : findH H k with
  | some x => rw [put_some h]; exact .inl rfl
  | none =>
    cases hf : p.first H k with
    | some j => rw [put_yes h hf]; exact .inl rfl
    | none => rw [put_no h hf]; exact .inr rfl
theorem foldB_barr (NS : List ByteArray) : NS.map foldB = (NS.map keyH).map barr := by rw [List.map_map]; rfl
theorem key_take {x : ByteArray} (h : foldB x ∈ (NS.map foldB).take k) : keyH x ∈ (NS.take k).map keyH := by
  rw [← List.map_take] at h
  obtain ⟨y, hy, e⟩ := List.mem_map.1 h
  exact List.mem_map.2 ⟨y, hy, barr_inj e⟩
theorem take_key {x : ByteArray} (h : keyH x ∈ (NS.take k).map keyH) : foldB x ∈ (NS.map foldB).take k := by
  rw [← List.map_take]
  obtain ⟨y, hy, e⟩ := List.mem_map.1 h
  exact List.mem_map.2 ⟨y, hy, congrArg barr e⟩
end
section
variable {B : PB} {w w' : World} {p : PoolD} {H : List Hd}
theorem Kq.cell (h : Kq B w w') (hp : PoolAt w B p H) {a : Addr} {v : Value} (hc : w.cell? a = some v) : w'.cell? a = some v := by
  have hne : ∀ {k : TypeId} {b : Nat} {E : List (Value × Value)}, MapE Tryd.prog k w b E → a.block ≠ b := by
    rintro k b E ⟨es, clock, hb, _⟩ e
    rw [World.cell?, e, hb] at hc
    cases hc
  rw [World.cell?_of_block (w := w) (h.block a.block (World.block_lt_of_cell? w a hc) (hne hp.adr) (hne hp.hld))]
  exact hc
theorem own_kq {base : Nat} {e : TypeId} {size : Nat} {v : Value} {n : Nat} {xs : List Value} (h : w.ownsRow base e size v n xs) (hq : Kq B w w') (ha : B.a < base) (hh : B.h < base) : w'.ownsRow base e size v n xs := by
  refine ⟨h.1, h.2.imp id fun ⟨g, cap, cur, h1, h2, h3, h4⟩ => ⟨g, cap, cur, h1, h2, ?_, h4⟩⟩
  rw [hq.block g (Array.getElem?_eq_some_iff.1 h3).1 (by omega) (by omega)]
  exact h3
theorem PoolAt.grownRow (h : PoolAt w B p H) {row : Option Nat} {N : Nat} (hg : w.grownBy w' row) (hlt : B.g < N ∧ B.s < N ∧ B.a < N ∧ B.h < N) (hr : ∀ j, row = some j → N ≤ j) : PoolAt w' B p H :=
  have ne : ∀ b, b < N → some b ≠ row := fun b hb e => by have := hr b e.symm; omega
  ⟨h.obj.grown hg (ne _ hlt.1), h.row.grown hg (ne _ hlt.2.1), h.adr.grown hg (ne _ hlt.2.2.1), h.hld.grown hg (ne _ hlt.2.2.2), h.ok, h.wf⟩
theorem Kq.grownRow {w'' : World} (h : Kq B w w') {row : Option Nat} (hg : w'.grownBy w'' row) (hr : ∀ j, row = some j → w.heap.size ≤ j) : Kq B w w'' :=
  ⟨hg.os.trans h.os, hg.tape.trans h.tape, hg.output.trans h.output, Nat.le_trans h.size hg.size, fun k hk h1 h2 => (hg.block k (Nat.lt_of_lt_of_le hk h.size) (fun e => by have := hr k e.symm; omega)).trans (h.block k hk h1 h2)⟩
end
/-- What Keep hands back, and what has become of the pool. -/
def KeepOut (B : PB) (p : PoolD) (H : List Hd) (NS : List ByteArray) (w : World) (e : Ending) (w' : World) : Prop :=
  ((∀ n ∈ NS, keyH n ≠ []) → ∃ v, e = .returned (.tuple #[v, .int .i64 0]) ∧ SRow w' v (keepK p (keepH H (NS.map keyH)) NS NS.length).2 ∧ PoolAt w' B p (keepK p (keepH H (NS.map keyH)) NS NS.length).1) ∧ ((∃ n ∈ NS, keyH n = []) → e = .returned (.tuple #[.slice none 0 0, .int .i64 2]) ∧ PoolAt w' B p H) ∧ Kq B w w'
def KeepRel (B : PB) (p : PoolD) (H1 : List Hd) (NS : List ByteArray) (w w3 : World) (v4 v30 : Value) (wr : World) : Prop :=
  ∃ k : Nat, v30 = .int .i64 (k : Nat) ∧ k ≤ NS.length ∧ PoolAt wr B p (keepK p H1 NS k).1 ∧ wr.ownsRow w3.heap.size 39 1 v4 (keepK p H1 NS k).2.length (strsV (keepK p H1 NS k).2) ∧ Kq B w3 wr
set_option maxRecDepth 100000 in
set_option maxHeartbeats 8000000 in
theorem pKeep_any {w : World} {B : PB} {p : PoolD} {H : List Hd} (hG : ∀ wx, Kq B w wx → Ground wx) (h : PoolAt w B p H) (hah : B.a ≠ B.h) {v : Value} {NS : List ByteArray} (hrow : SRow w v NS) (hs : ∀ n ∈ NS, n.size ≤ 1099511627776) (hl : NS.length ≤ 100000) :
    Calls Tryd.prog 10 #[.pointer (some ⟨B.g, 0, none⟩), v] w (KeepOut B p H NS w) := by
  have hsm : ∀ n ∈ NS, n.size ≤ maxLen := fun n hn => by have := hs n hn; unfold maxLen; omega
  have HM := Lib.hid (pmade_yes h)
  have HFa := Lib.hid (foldAll_any hrow hsm hl)
  have HP := Lib.hid h
  obtain ⟨A1, cap1, rfl, hlc, hcm, hat⟩ := srow_at hrow
  unfold maxLen at hcm
  by_cases hbad : ∃ n ∈ NS, keyH n = []
  · obtain ⟨Post, hPost⟩ : ∃ Post, Post = KeepOut B p H NS w := ⟨_, rfl⟩
    have HX : Hid (∀ wx, Below w.heap.size w wx → Post (.returned (.tuple #[.slice none 0 0, .int .i64 2])) wx) := Lib.hid fun wx hb => by
      rw [hPost]
      exact ⟨fun h => by obtain ⟨n, hn, h0⟩ := hbad; exact absurd h0 (h n hn), fun _ => ⟨rfl, HP.out.next hb⟩, Kq.of_below hb⟩
    rw [← hPost]
    have HBd := Lib.hid hbad
    clear hs hsm hat hbad h hG hrow hPost
    go_enter Tryd.func10, Tryd.ntmps10
    go_wp2_with (first | (go_at_call 25; refine HM.out.mono ?_; rintro e w1 ⟨rfl, rfl⟩) | (go_at_call 26; refine HFa.out.mono ?_; rintro e w1 ⟨_, h2, hb⟩; obtain rfl := h2 HBd.out; have HB := Lib.hid hb; clear h2 hb))
    exact HX.out _ HB.out
  · have hgood : ∀ n ∈ NS, keyH n ≠ [] := fun n hn h0 => hbad ⟨n, hn, h0⟩
    have HGd := Lib.hid hgood
    have HG := Lib.hid hG
    have HS := Lib.hid hs
    have HAt := Lib.hid hat
    have HAh := Lib.hid hah
    have hFl : (NS.map foldB).length = NS.length := List.length_map ..
    have hFs : ∀ n ∈ NS.map foldB, n.size ≤ maxLen := by
      intro n hn
      obtain ⟨m, _, rfl⟩ := List.mem_map.1 hn
      show (keyH m).toArray.size ≤ maxLen
      simpa using key_max m
    have HFs := Lib.hid hFs
    have HFl := Lib.hid hFl
    have HHl := Lib.hid hl
    have hkm : ∀ k ∈ NS.map keyH, k.length ≤ maxLen := by
      intro k hk
      obtain ⟨m, _, rfl⟩ := List.mem_map.1 hk
      exact key_max m
    have HKm := Lib.hid hkm
    obtain ⟨Post, hPost⟩ : ∃ Post, Post = KeepOut B p H NS w := ⟨_, rfl⟩
    have HX : Hid (∀ v wx, SRow wx v (keepK p (keepH H (NS.map keyH)) NS NS.length).2 → PoolAt wx B p (keepK p (keepH H (NS.map keyH)) NS NS.length).1 → Kq B w wx → Post (.returned (.tuple #[v, .int .i64 0])) wx) := Lib.hid fun v wx h1 h2 h3 => by
      rw [hPost]
      exact ⟨fun _ => ⟨v, rfl, h1, h2⟩, fun ⟨n, hn, h0⟩ => absurd h0 (hgood n hn), h3⟩
    have hlt := h.lt
    have HLt := Lib.hid hlt
    rw [← hPost]
    clear hs hsm hat hbad h hG hrow hgood hFl hFs hkm hl hah hPost hlt
    go_enter Tryd.func10, Tryd.ntmps10
    go_wp2_with (first | (go_at_call 25; refine HM.out.mono ?_; rintro e w1 ⟨rfl, rfl⟩) | (go_at_call 26; refine HFa.out.mono ?_; rintro e w1 ⟨h1, _, hb⟩; obtain ⟨v6, rfl, hs6⟩ := h1 HGd.out; have HB1 := Lib.hid hb; have HS6 := Lib.hid hs6; obtain ⟨A6, cap6, rfl, hlc6, hcm6, hat6⟩ := srow_at hs6; rw [HFl.out] at hlc6 ⊢; unfold maxLen at hcm6; have HAt6 := Lib.hid hat6; clear h1 hb hs6 hat6) | (go_at_call 27; refine (firsts_any (by have := HS6.out; rw [HFl.out] at this; exact this) HFs.out (by rw [HFl.out]; exact HHl.out)).mono ?_; rintro e w2 ⟨fb, rfl, hge, hM, hb⟩; have HGe := Lib.hid (Nat.le_trans HB1.out.size hge); have HFm := Lib.hid hM; have HB2 := Lib.hid hb; clear hge hM hb))
    have HLw := Lib.hid (HB1.out.trans (HB2.out.mono HB1.out.size))
    have hfne : Hid (fb ≠ B.a ∧ fb ≠ B.h) := Lib.hid (by
      have h1 := HLt.out
      have h2 := HGe.out
      omega)
    have HFm2 : Hid (FirM w2 fb NS.length (NS.map foldB)) := Lib.hid (by have := HFm.out; rw [HFl.out] at this; exact this)
    have HDo := Lib.hid (dropOthers_any (K := NS.map keyH) (HP.out.next HLw.out) (by have := HFm2.out; rw [foldB_barr] at this; rw [List.length_map]; exact this) hfne.out HKm.out)
    refine HDo.out.mono ?_
    rintro e w3 ⟨rfl, hp3, hk3⟩
    have hkq := (Kq.of_below (B := B) HLw.out).trans hk3
    have HF3 : Hid (FirM w3 fb NS.length (NS.map foldB)) := Lib.hid (HFm2.out.same (hk3.block fb HFm2.out.lt hfne.out.1 hfne.out.2))
    have HR0 : Hid (KeepRel B p (keepH H (NS.map keyH)) NS w w3 (.slice none 0 0) (.int .i64 0) w3) := Lib.hid ⟨0, rfl, Nat.zero_le _, hp3, World.ownsRow_nil _ _ _ _, Kq.refl _ _⟩
    have HAt3 : Hid (∀ j (hj : j < NS.length), ∃ g o, A6 = some ⟨g, o, none⟩ ∧ ∀ wx, Kq B w3 wx → wx.cell? ⟨g, o + j, none⟩ = some (.string (foldB NS[j]))) := Lib.hid (fun j hj => by
      obtain ⟨g, o, e, hgl, hc⟩ := HAt6.out j (by rw [HFl.out]; exact hj)
      refine ⟨g, o, e, fun wx hq => hq.cell hp3 (hk3.cell (HP.out.next HLw.out) ?_)⟩
      rw [HB2.out.cell (p := ⟨g, o + j, none⟩) hgl, hc, List.getElem_map])
    have HK3 := Lib.hid hkq
    have HLt3 := Lib.hid hp3.lt
    clear hp3 hk3 hkq
    go_wp2
    have HAw : Hid (∀ j (hj : j < NS.length), ∃ g o, A1 = some ⟨g, o, none⟩ ∧ ∀ wx, Kq B w wx → wx.cell? ⟨g, o + j, none⟩ = some (.string NS[j])) := Lib.hid (fun j hj => by
      obtain ⟨g, o, e, _, hc⟩ := HAt.out j hj
      exact ⟨g, o, e, fun wx hq => hq.cell HP.out hc⟩)
    obtain ⟨H1, hH1⟩ : ∃ H1, keepH H (NS.map keyH) = H1 := ⟨_, rfl⟩
    rw [hH1] at HX HR0
    have HX2 : Hid (∀ v wx k, k = NS.length → wx.ownsRow w3.heap.size 39 1 v (keepK p H1 NS k).2.length (strsV (keepK p H1 NS k).2) → PoolAt wx B p (keepK p H1 NS k).1 → Kq B w wx → Post (.returned (.tuple #[v, .int .i64 0])) wx) := Lib.hid (by
      rintro v wx k rfl h1 h2 h3
      exact HX.out v wx (SRow.of_own h1) h2 h3)
    clear HX hH1 HAt HAt6 HS6 HDo
    go_loopw [4, 30] (fun v4 v30 wr => KeepRel B p H1 NS w w3 v4 v30 wr) (fun _ v30 _ => NS.length - (intOf v30).toNat)
    case atStart => exact HR0.out
    case round =>
      clear HR0
      obtain ⟨k, rfl, hk, hp, hrow, hq⟩ := hrel
      obtain ⟨A4, cap4, rfl⟩ := own_shape hrow
      have HPk := Lib.hid hp
      have HRw := Lib.hid hrow
      have HQ := Lib.hid hq
      have hfm := HF3.out.same (hq.block fb HF3.out.lt hfne.out.1 hfne.out.2)
      clear hp hrow hq
      rcases Nat.lt_or_ge k NS.length with hlt | hge
      · obtain ⟨g6, o6, rfl, hc6⟩ := HAt3.out k hlt
        obtain ⟨g1, o1, rfl, hc1⟩ := HAw.out k hlt
        have hkI : (k : Int) < (NS.length : Int) := by omega
        have c6 := hc6 wr HQ.out
        have c1 := hc1 wr (HK3.out.trans HQ.out)
        have hlF : k < (NS.map foldB).length := by rw [HFl.out]; exact hlt
        have hmF : foldB NS[k] ∈ (NS.map foldB).take NS.length := by
          rw [List.take_of_length_le (by rw [HFl.out]; exact Nat.le_refl _)]
          exact List.mem_map.2 ⟨_, List.getElem_mem hlt, rfl⟩
        have hsF : (foldB NS[k]).size ≤ maxLen := HFs.out _ (List.mem_map.2 ⟨_, List.getElem_mem hlt, rfl⟩)
        obtain ⟨i, hi, hil, ei, hfi, hlk⟩ := hfm.yes false hsF hmF
        simp only [Bool.false_eq_true, if_false] at hlk
        by_cases hik : i = k
        · subst hik
          have hnk : keyH NS[i] ∉ (NS.take i).map keyH := fun h => hfi.2 (by rw [ei]; exact take_key h)
          have hgk := HGd.out NS[i] (List.getElem_mem hlt)
          have hsk := HS.out NS[i] (List.getElem_mem hlt)
          have hgv := Lib.hid (pgive_any (HG.out wr (HK3.out.trans HQ.out)) HPk.out HAh.out rfl hgk (n := NS[i]) (by omega))
          obtain ⟨⟨H', ⟨s, ah, al⟩, er⟩, hR⟩ : ∃ R, p.put (keepK p H1 NS i).1 NS[i] (keyH NS[i]) = R := ⟨_, rfl⟩
          have her := put_err p (keepK p H1 NS i).1 NS[i] (keyH NS[i])
          have hav : av (s, ah, al) = .agg #[.bool s, .int .u64 (ah : Int), .int .u64 (al : Int)] := rfl
          rw [hR] at her hgv
          unfold GiveOut at hgv
          simp only [hav] at her hgv
          rcases her with rfl | rfl
          · have eK : keepK p H1 NS (i + 1) = (H', (keepK p H1 NS i).2) := (keepK_ok hlt hnk (congrArg (fun R => R.2.2) hR)).trans (Prod.ext (congrArg (fun R => R.1) hR) rfl)
            have HEk := Lib.hid eK
            obtain ⟨F, hF⟩ : ∃ F, foldB NS[i] = F := ⟨_, rfl⟩
            obtain ⟨n, hn⟩ : ∃ n, NS[i] = n := ⟨_, rfl⟩
            have eF : stv (keyH NS[i]) = .string F := by rw [← hF]; rfl
            rw [eF, hn] at hgv
            rw [hF] at hlk c6
            rw [hn] at c1
            have HKL : Hid (i + 1 ≤ NS.length) := Lib.hid hlt
            clear hfm hc6 hc1 hlF hmF hsF hi hil ei hfi hnk hgk hsk hR eK hF hn eF hav
            go_wp2_with (go_at_call 29; refine hgv.out.mono ?_; rintro e w4 ⟨rfl, hp4, hk4⟩; have HP4 := Lib.hid hp4; have HK4 := Lib.hid hk4; clear hp4 hk4)
            go_roundw
            case rel =>
              refine ⟨i + 1, by go_num, HKL.out, ?_, ?_, ?_⟩
              · rw [HEk.out]
                exact HP4.out.alloc _
              · rw [HEk.out]
                exact (own_kq HRw.out HK4.out HLt3.out.2.2.1 HLt3.out.2.2.2).alloc _
              · exact (HQ.out.trans HK4.out).trans (Kq.of_below ((Below.refl _ _).alloc (Nat.le_refl _) _))
            case measure => simp [intOf]; omega
          · have eK : keepK p H1 NS (i + 1) = (H', (keepK p H1 NS i).2 ++ [NS[i]]) := (keepK_lost hlt hnk (by have := congrArg (fun R => R.2.2) hR; exact fun h => absurd (h.symm.trans this) (show ¬ (0 : Nat) = 10 by decide))).trans (Prod.ext (congrArg (fun R => R.1) hR) rfl)
            have hle := keepK_le (p := p) (H := H1) (NS := NS) i
            have HLe := Lib.hid hle
            obtain ⟨i0, hi0, hz0, hz1, hz2⟩ := info_parts infoN
            have HI := Lib.hid hi0
            have HZ0 := Lib.hid hz0
            have HZ1 := Lib.hid hz1
            have HZ2 := Lib.hid hz2
            obtain ⟨F, hF⟩ : ∃ F, foldB NS[i] = F := ⟨_, rfl⟩
            obtain ⟨n, hn⟩ : ∃ n, NS[i] = n := ⟨_, rfl⟩
            have eF : stv (keyH NS[i]) = .string F := by rw [← hF]; rfl
            rw [eF, hn] at hgv
            rw [hF] at hlk c6
            rw [hn] at c1 eK
            have HEk := Lib.hid eK
            have HC1 : Hid (∀ wx, Kq B w wx → wx.cell? ⟨g1, o1 + i, none⟩ = some (.string n)) := Lib.hid (fun wx hq => by rw [← hn]; exact hc1 wx hq)
            have HKL : Hid (i + 1 ≤ NS.length) := Lib.hid hlt
            clear hfm hc6 hc1 hlF hmF hsF hi hil ei hfi hnk hgk hsk hR eK hF hn eF hav hi0 hz0 hz1 hz2 hle
            go_upto_region 14 with (go_at_call 29; refine hgv.out.mono ?_; rintro e w4 ⟨rfl, hp4, hk4⟩; have hb5 : Below w4.heap.size w4 (w4.alloc (.cells #[.bool s, .int .u64 (ah : Int), .int .u64 (al : Int)] 29)) := (Below.refl _ _).alloc (Nat.le_refl _) _; have hq5 := (HQ.out.trans hk4).trans (Kq.of_below (B := B) hb5); have c1W := HC1.out _ (HK3.out.trans hq5); have HO5 := Lib.hid ((own_kq HRw.out hk4 HLt3.out.2.2.1 HLt3.out.2.2.2).alloc (.cells #[.bool s, .int .u64 (ah : Int), .int .u64 (al : Int)] 29)); have HP5 := Lib.hid (hp4.next hb5); have HQ5 := Lib.hid hq5; have HSz := Lib.hid (Nat.le_trans HQ.out.size hk4.size); clear hp4 hk4 hq5 hb5)
            have HOb : Hid (∀ j, (Value.slice A4 (keepK p H1 NS i).2.length cap4).ownBlock = some j → w3.heap.size ≤ j) := Lib.hid (fun j hj => (own_block HO5.out hj).1)
            have HC2 : Hid (∀ t j u, [Value.string n][j]? = some u → ((w4.alloc (.cells #[.bool s, .int .u64 (ah : Int), .int .u64 (al : Int)] 29)).alloc (.cells #[.string n] t)).cell? ((⟨w4.heap.size + 1, 0, none⟩ : Addr).add j) = some u) := Lib.hid (fun t j u hj => by
              have := cell_one_new (w4.alloc (.cells #[.bool s, .int .u64 (ah : Int), .int .u64 (al : Int)] 29)) (.string n) t j u hj
              rw [show (w4.alloc (.cells #[.bool s, .int .u64 (ah : Int), .int .u64 (al : Int)] 29)).heap.size = w4.heap.size + 1 by simp] at this
              exact this)
            go_wp2_with (at_builtin; refine wpList_append_own _ rfl _ _ 36 rfl w3.heap.size 39 i0 (.string ⟨#[]⟩) 1 16 Tryd.underlying36 HI.out HZ0.out HZ1.out HZ2.out rfl (by decide) _ _ _ rfl (HO5.out.alloc _) ⟨w4.heap.size + 1, 0, none⟩ 1 1 [.string n] rfl rfl (HC2.out _) (by simp [Value.oneCell']) (by unfold maxLen; have := HHl.out; have := HLe.out; omega) (by have := HHl.out; have := HLe.out; omega) (by have := HSz.out; first | (simp; omega) | simp | omega) ?_; intro v' w6 hown' hgrow _; have HO6 := Lib.hid hown'; have HG6 := Lib.hid hgrow; clear hown' hgrow)
            go_roundw
            case rel =>
              refine ⟨i + 1, by go_num, HKL.out, ?_, ?_, ?_⟩
              · rw [HEk.out]
                exact (HP5.out.alloc _).grownRow HG6.out HLt3.out HOb.out
              · rw [HEk.out]
                unfold strsV
                rw [List.map_append, List.length_append]
                exact HO6.out
              · exact (HQ5.out.trans (Kq.of_below ((Below.refl _ _).alloc (Nat.le_refl _) _))).grownRow HG6.out HOb.out
            case measure => simp [intOf]; omega
        · have hlt2 : i < k := by
            rcases Nat.lt_or_ge i k with h | h
            · exact h
            · exact absurd (by rw [ei]; exact List.mem_take_iff_getElem.2 ⟨k, by omega, by rw [List.getElem_map]⟩) hfi.2
          have hkt : keyH NS[k] ∈ (NS.take k).map keyH := key_take (by rw [← ei]; exact List.mem_take_iff_getElem.2 ⟨i, by omega, rfl⟩)
          have HEk := Lib.hid (keepK_old (p := p) (H := H1) hlt hkt)
          have hikI : ¬ ((i : Int) = (k : Int)) := by omega
          obtain ⟨F, hF⟩ : ∃ F, foldB NS[k] = F := ⟨_, rfl⟩
          rw [hF] at hlk c6
          have HKL : Hid (k + 1 ≤ NS.length) := Lib.hid hlt
          clear hfm hc6 hc1 hlF hmF hsF hi hil ei hfi hkt hF hik c1
          go_wp2
          go_roundw
          case rel =>
            refine ⟨k + 1, by go_num, HKL.out, ?_, ?_, HQ.out⟩
            · rw [HEk.out]; exact HPk.out
            · rw [HEk.out]; exact HRw.out
          case measure => simp [intOf]; omega
      · have hkl : k = NS.length := by omega
        clear hfm
        go_wp2
        exact HX2.out _ _ k hkl HRw.out HPk.out (HK3.out.trans HQ.out)
end Go.Proofs.YthlabpbplikjbaaDoor
