/-
  LruRooms: the walk. No condition.
-/
import Derived.Test.YtabhapohkohbmaaLrP
import Derived.Test.YtabhapohkohbmaaLrV
namespace Go.Proofs.Ytabhapohkohbmaa
open Go.RowKit Go.Maps
set_option linter.unusedVariables false
set_option linter.unusedSimpArgs false
attribute [local go_sem] Oper.semAt_some

theorem bel_ac {w wr : World} {g o : Nat} {x : Ac} (h : AcAt w g o x) (hb : Below w.heap.size w wr) (hg : g < w.heap.size) : AcAt wr g o x := h.below hb hg
/-- Between two rounds: the smaller list is the first part of the greater one. -/
def RmRel (w : World) (L : List Ac) (p q s m : Nat) (i : Value) (wr : World) : Prop := ∃ (k : Nat) (Ra Rb : Rw), i = .int .i64 (k : Int) ∧ k ≤ L.length ∧ Ra = Rb.take s ∧ UnL Rb ∧ Two w (fun _ => False) p s Ra q (s + m) Rb wr
theorem Two.les {w wr : World} {D : Nat → Prop} {p mst q nst : Nat} {R S : Rw} (h : Two w D p mst R q nst S wr) : R.length ≤ mst ∧ S.length ≤ nst ∧ UnL R ∧ UnL S := by
  obtain ⟨T, U, h1, h2, _⟩ := h
  exact ⟨h1.le, h2.le, h1.unlike, h2.unlike⟩
theorem Two.look1 {w wr : World} {D : Nat → Prop} {p mst q nst : Nat} {R S : Rw} (h : Two w D p mst R q nst S wr) {k : ByteArray} (hk : k.size ≤ maxLen) : Calls Try.prog 25 #[.pointer (some ⟨p, 0, none⟩), .string k] wr fun e w' => e = .returned (.tuple #[.int .i64 ((lookR R k).getD 0), .bool (lookR R k).isSome]) ∧ Below wr.heap.size wr w' := by
  obtain ⟨U, _, _, h1, _⟩ := h.one
  refine (h1.look hk).mono ?_
  rintro e w' ⟨rfl, _, _, hb⟩
  exact ⟨rfl, hb⟩
theorem Two.keys1 {w wr : World} {D : Nat → Prop} {p mst q nst : Nat} {R S : Rw} (h : Two w D p mst R q nst S wr) (hl : R.length ≤ 1099511627776) : Calls Try.prog 32 #[.pointer (some ⟨p, 0, none⟩)] wr fun e w' => ∃ v, e = .returned v ∧ OwnK w' wr.heap.size v (R.map (·.1)) ∧ Below wr.heap.size wr w' := by
  obtain ⟨U, _, _, h1, _⟩ := h.one
  refine (h1.keys hl).mono ?_
  rintro e w' ⟨v, rfl, ho, _, _, hb⟩
  exact ⟨v, rfl, ho, hb⟩
theorem One.keyS {w wr : World} {D : Nat → Prop} {p mst : Nat} {R : Rw} (h : One w D p mst R wr) : ∀ x ∈ R, x.1.size ≤ maxLen := by
  obtain ⟨T, ⟨m, b, A, B, L, h1, rfl, _⟩, _⟩ := h
  intro x hx
  obtain ⟨y, hy, rfl⟩ := List.mem_map.1 hx
  exact h1.key y hy
theorem hD3 {Ra Rb : Rw} {s : Nat} (h : Rb.map (·.1) = []) (e : Ra = Rb.take s) : Ra.map (·.1) = [] := by
  have : Rb = [] := by simpa using h
  rw [e, this]
  simp
theorem own_take {w : World} {b : Nat} {v : Value} {D : List ByteArray} (h : OwnK w b v D) {n : Nat} (hn : n ≤ D.length) : ∃ A cap, v = .slice A D.length cap ∧ ((A = none ∧ n = 0 ∧ cap = 0 ∧ D = []) ∨ ∃ g, A = some ⟨g, 0, none⟩ ∧ n ≤ cap ∧ cap ≤ maxLen ∧ SRow w (.slice (some ⟨g, 0, none⟩) n cap) (D.take n)) := by
  rcases h.2 with ⟨rfl, e⟩ | ⟨g, cap, cur, e, hg, hc, h1, h2, h3, h4⟩
  · exact ⟨none, 0, by rw [e], Or.inl ⟨rfl, by omega, rfl, List.length_eq_zero_iff.1 e⟩⟩
  · refine ⟨_, cap, e, Or.inr ⟨g, rfl, by omega, h2, Or.inr ⟨g, 0, cap, by rw [List.length_take, Nat.min_eq_left hn], (Array.getElem?_eq_some_iff.1 hc).1, by rw [List.length_take, Nat.min_eq_left hn]; omega, h2, ?_⟩⟩⟩
    intro j hj
    rw [List.length_take, Nat.min_eq_left hn] at hj
    rw [cell_of_row w g (0 + j) cur _ (0, 0) hc, Nat.zero_add]
    have hjD : j < D.length := by omega
    have e1 : (D.map Value.string)[j]? = some (.string D[j]) := by rw [List.getElem?_map, List.getElem?_eq_getElem hjD]; rfl
    rw [← h4, List.getElem?_take_of_lt (by omega)] at e1
    rw [List.getElem_take]
    simpa using e1
set_option maxRecDepth 100000 in
set_option maxHeartbeats 16000000 in
theorem rooms_in (s m : Nat) (L : List Ac) (v : Value) (w : World) (hL : ARow w v L) (hs1 : 1 ≤ s) (hs2 : s ≤ 100) (hm : m ≤ 100) (hl : L.length ≤ 200) :
    Calls Try.prog 8 #[.int .i64 (s : Int), .int .i64 (m : Int), v] w fun e w' => e = .returned (.bool true) ∧ Below w.heap.size w w' := by
  obtain ⟨⟨A, cap, rfl, hlc, hcm, hat⟩, hfit⟩ := hL
  have HL := Lib.hid (lives15 w)
  have HAt := Lib.hid hat
  have HF := Lib.hid hfit
  clear hat hfit
  have i1 : ¬ (200 : Int) < (L.length : Int) := by omega
  have i2 : ¬ (s : Int) < 1 := by omega
  have i3 : ¬ (100 : Int) < (s : Int) := by omega
  have i4 : ¬ (m : Int) < 0 := by omega
  have i5 : ¬ (100 : Int) < (m : Int) := by omega
  go_enter Try.func8, Try.ntmps8
  go_wp2_with fail
  refine HL.out.mono ?_
  rintro e w1 ⟨rfl, hb⟩
  have N1 := Lib.hid (One.new (w := w) (D := fun _ => False) hb (fun k h => h.elim) (s : Int))
  clear hb HL
  go_wp2_with fail
  refine N1.out.mono ?_
  rintro e w2 ⟨p, rfl, h2, _⟩
  have N2 := Lib.hid (Two.second h2 ((s : Int) + m))
  clear h2 N1
  have e1 : (s : Int).toNat = s := by omega
  have e2 : ((s : Int) + m).toNat = s + m := by omega
  rw [e1, e2] at N2
  go_wp2_with fail
  refine N2.out.mono ?_
  rintro e w3 ⟨q, rfl, h3, _⟩
  have HR0 : Hid (RmRel w L p q s m (.int .i64 0) w3) := Lib.hid ⟨0, [], [], rfl, Nat.zero_le _, by simp, List.Pairwise.nil, h3⟩
  clear h3 N2 e1 e2 i1 i2 i3 i4 i5
  go_wp2
  go_loopw [9] (fun i wr => RmRel w L p q s m i wr) (fun i _ => L.length - (intOf i).toNat)
  case atStart => exact HR0.out
  case round =>
    clear HR0
    obtain ⟨k, Ra, Rb, rfl, hk, hRa, hu, hT⟩ := hrel
    have HT := Lib.hid hT
    by_cases hlt : k < L.length
    · obtain ⟨g, o, rfl, hg, hac⟩ := HAt.out k hlt
      obtain ⟨x, hx⟩ : ∃ x, L[k] = x := ⟨_, rfl⟩
      have hxf := HF.out L[k] (List.getElem_mem hlt)
      rw [hx] at hac hxf
      obtain ⟨ki, sx, vx⟩ := x
      have hac1 := hac.below hT.bel hg
      have a1 := hac1.s
      have j1 : (k : Int) < L.length := by omega
      simp only at a1
      by_cases h100 : 100 < sx.size
      · have j2 : (100 : Int) < (sx.size : Int) := by omega
        clear hac hac1 hx hxf hT
        have HB := Lib.hid HT.out.bel
        go_wp2
        go_ret
        exact ⟨rfl, HB.out⟩
      · have j2 : ¬ (100 : Int) < (sx.size : Int) := by omega
        have hx48 : sx.size ≤ 281474976710656 := by omega
        obtain ⟨hla, hlb, _, _⟩ := hT.les
        have P1 := Lib.hid ((hT.next (w' := wr.drew) (Below.refl _ wr).drew).1.call fun D' h => h.put (k := sx) hx48 (by omega) (by omega) vx)
        have a2 := hac1.v
        simp only at a2
        have HG := Lib.hid hg
        have HAc := Lib.hid hac
        have HX := Lib.hid (And.intro hx48 (And.intro hla hlb))
        have HRa := Lib.hid (And.intro hRa (And.intro hu hlt))
        clear hac hac1 hx hxf hT hx48 hla hlb hg hRa hu hlt
        go_wp2
        go_region_with (go_at_call 21; (with_reducible refine P1.out.mono ?_); rintro e y1 ⟨rfl, t1, _⟩; have T1 := Lib.hid t1; clear t1)
        all_goals
          clear a1 a2
          have hac2 := HAc.out.below T1.out.bel HG.out
          have a1 := hac2.s
          have a2 := hac2.v
          simp only at a1 a2
          have P2 := Lib.hid ((T1.out.next (w' := y1.drew) (Below.refl _ y1).drew).1.swap.call fun D' h => h.put (k := sx) HX.out.1 (by have := HX.out.2.2; omega) (by omega) vx)
          clear hac2
          go_wp2
          go_region_with (go_at_call 21; (with_reducible refine P2.out.mono ?_); rintro e y2 ⟨rfl, t2, _⟩; have T2 := Lib.hid t2; clear t2)
          all_goals
            clear a1 a2
            go_wp2
            go_roundw
            case rel =>
              refine ⟨k + 1, _, _, by go_num, HRa.out.2.2, ?_, T2.out.les.2.2.1, T2.out.swap⟩
              exact put_less (by omega) (by omega) HRa.out.2.1 HRa.out.1 HX.out.2.2
            case measure => have := HRa.out.2.2; simp [intOf]; omega
    · have j1 : ¬ (k : Int) < L.length := by omega
      obtain ⟨hla, hlb, hua, hub⟩ := hT.les
      have P1 := Lib.hid (hT.keys1 (by omega))
      have HX := Lib.hid (And.intro hla (And.intro hlb (And.intro hua hub)))
      have HRa := Lib.hid hRa
      clear hla hlb hua hub hT hRa hu
      go_wp2_with fail
      refine P1.out.mono ?_
      rintro e y1 ⟨v1, rfl, o1, b1⟩
      have P2 := Lib.hid ((HT.out.next b1).1.swap.keys1 (by have := HX.out.2.1; omega))
      have B1 := Lib.hid b1
      have O1 := Lib.hid o1
      clear b1 o1
      go_wp2_with fail
      refine P2.out.mono ?_
      rintro e y2 ⟨v2, rfl, o2, b2⟩
      have B2 := Lib.hid b2
      have O1 := Lib.hid (O1.out.next b2)
      have T2 := Lib.hid ((HT.out.next B1.out).1.next b2).1
      obtain ⟨nA, hnA⟩ : ∃ nA, Ra.length = nA := ⟨_, rfl⟩
      obtain ⟨nB, hnB⟩ : ∃ nB, Rb.length = nB := ⟨_, rfl⟩
      have hAB : nA = min s nB := by rw [← hnA, ← hnB, HRa.out, List.length_take]
      obtain ⟨A2, c2, e2, hc2⟩ := own_take o2 (n := nA) (by rw [List.length_map, hnB]; omega)
      obtain ⟨A1, c1, e1⟩ := ownK_shape O1.out
      rw [List.length_map] at e1 e2
      rw [hnA] at e1
      rw [hnB] at e2
      have hks : (Rb.map (·.1)).take nA = Ra.map (·.1) := by
        rw [← List.map_take]
        congr 1
        rw [HRa.out, hAB]
        rcases Nat.le_total s nB with h | h
        · rw [Nat.min_eq_left h]
        · rw [Nat.min_eq_right h, ← hnB, List.take_length, List.take_of_length_le (by omega)]
      rw [hks] at hc2
      have k1 : ¬ (s : Int) < (nA : Int) := by omega
      have k2 : ¬ (nB : Int) < (nA : Int) := by omega
      have hk0 : ((nA : Int) < (s : Int) ∧ ((nA : Int) != (nB : Int)) = false) ∨ ¬ (nA : Int) < (s : Int) := by
        rcases Nat.lt_or_ge nA s with h | h
        · refine Or.inl ⟨by omega, ?_⟩
          have : nA = nB := by omega
          rw [this]
          simp
        · exact Or.inr (by omega)
      have HS1 := Lib.hid O1.out.row
      have HA := Lib.hid (And.intro hnA (And.intro hnB hAB))
      have HSame := Lib.hid (fun (x : Value) (hx : SRow y2 x (Ra.map (·.1))) => same_any O1.out.row hx)
      clear o2 b2 hnA hnB hAB hks O1
      subst e1 e2
      rcases hc2 with ⟨rfl, rfl, rfl, hD⟩ | ⟨g2, rfl, hn2, hcm2, hr2⟩
      · have hB0 : nB = 0 := by rw [← HA.out.2.1]; simpa using hD
        subst hB0
        have HS3 := Lib.hid (HSame.out (.slice none 0 0) (Or.inl ⟨none, rfl, hD3 hD HRa.out⟩))
        have k3 : (0 : Int) < (s : Int) := by omega
        clear hk0 k1 k2 hD
        go_wp2_with fail
        refine HS3.out.mono ?_
        rintro e y3 ⟨rfl, b3⟩
        have HR1 : Hid (Below y2.heap.size y2 y3) := Lib.hid b3
        clear b3
        go_wp2
        go_loopw [12] (fun i wz => i = .int .i64 0 ∧ Below y2.heap.size y2 wz) (fun _ _ => 0)
        case atStart => exact ⟨rfl, HR1.out⟩
        case round =>
          obtain ⟨rfl, hb⟩ := hrel
          have HB3 := Lib.hid hb
          have T3 := Lib.hid (T2.out.next hb).1
          have K3 := Lib.hid (T3.out.keys1 (by have := HX.out.1; omega))
          clear hb
          go_wp2_with fail
          refine K3.out.mono ?_
          rintro e y4 ⟨v4, rfl, o4, b4⟩
          have SS := Lib.hid (same_any o4.row (HS1.out.next (HB3.out.trans (b4.mono HB3.out.size))))
          have T4 := Lib.hid (T3.out.next b4).1
          clear o4 b4
          go_wp2_with fail
          refine SS.out.mono ?_
          rintro e y5 ⟨rfl, b5⟩
          have B5 := Lib.hid (T4.out.next b5).1.bel
          clear b5
          go_wp2
          go_ret
          exact ⟨rfl, B5.out⟩
      · have HS3 := Lib.hid (HSame.out _ hr2)
        have k4 : (nA : Int) ≤ (c2 : Int) := by omega
        have hA : Hid (Ra.length = nA) := Lib.hid HA.out.1
        rcases hk0 with ⟨hk0, hk1⟩ | hk0
        all_goals
          clear hr2
          go_wp2_with fail
          refine HS3.out.mono ?_
          rintro e y3 ⟨rfl, b3⟩
          have HR1 : Hid (Below y2.heap.size y2 y3) := Lib.hid b3
          clear b3
          go_wp2
          clear k1 k2 hk0
          try clear hk1
          generalize decide (s < nA) = bb1
          generalize decide (nB < nA) = bb2
          go_loopw [12] (fun i wz => ∃ j : Nat, i = .int .i64 (j : Int) ∧ j ≤ nA ∧ Below y2.heap.size y2 wz) (fun i _ => nA - (intOf i).toNat)
          case atStart => exact ⟨0, rfl, Nat.zero_le _, HR1.out⟩
          case round =>
            obtain ⟨j, rfl, hj, hb⟩ := hrel
            have HB3 := Lib.hid hb
            by_cases hjn : j < nA
            · have hjR : j < Ra.length := by rw [hA.out]; exact hjn
              obtain ⟨⟨xk, xv⟩, hx⟩ : ∃ x, Ra[j] = x := ⟨_, rfl⟩
              have hxm : (xk, xv) ∈ Ra := by rw [← hx]; exact List.getElem_mem hjR
              have hxb : (xk, xv) ∈ Rb := by rw [HRa.out] at hxm; exact List.mem_of_mem_take hxm
              have T3 := Lib.hid (T2.out.next hb).1
              obtain ⟨_, _, _, o3, _⟩ := T3.out.one
              have hks := o3.keyS _ hxm
              have l1 := look_mem HX.out.2.2.1 hxm
              have l2 := look_mem HX.out.2.2.2 hxb
              have L1 := Lib.hid (T3.out.look1 hks)
              have L2 := Lib.hid (fun y4 (hb4 : Below wr.heap.size wr y4) => (T3.out.next hb4).1.swap.look1 hks)
              rw [l1] at L1
              rw [l2] at L2
              obtain ⟨A1', c1', e1', hc1, hm1, hat1⟩ := row_at (HS1.out.next hb)
              rw [List.length_map] at e1'
              obtain ⟨g1, o1, hA1, hg1, hx1⟩ := hat1 j (by rw [List.length_map]; exact hjR)
              injection e1' with e1a e1b e1c
              subst e1a e1c hA1
              have hxk : (Ra.map (·.1))[j]'(by rw [List.length_map]; exact hjR) = xk := by rw [List.getElem_map, hx]
              rw [hxk] at hx1
              have q1 : (j : Int) < (nA : Int) := by omega
              have HJ := Lib.hid hjn
              clear hx hxm hxb o3 hks l1 l2 hc1 hm1 hat1 hg1 hxk hjR hjn hb e1b
              go_wp2_with fail
              refine L1.out.mono ?_
              rintro e y4 ⟨rfl, b4⟩
              have B4 := Lib.hid b4
              have hx4 : y4.cell? ⟨g1, o1 + j, none⟩ = some (.string xk) := (b4.cell (p := ⟨g1, o1 + j, none⟩) (World.block_lt_of_cell? _ _ hx1)).trans hx1
              clear b4 hx1
              go_wp2_with fail
              refine (L2.out _ B4.out).mono ?_
              rintro e y5 ⟨rfl, b5⟩
              have B5 := Lib.hid (HB3.out.trans ((B4.out.trans (b5.mono B4.out.size)).mono HB3.out.size))
              clear b5 hx4
              go_wp2
              go_roundw
              case rel => exact ⟨j + 1, by go_num, HJ.out, B5.out⟩
              case measure => have := HJ.out; simp [intOf]; omega
            · have q1 : ¬ (j : Int) < (nA : Int) := by omega
              have T3 := Lib.hid (T2.out.next hb).1
              have K3 := Lib.hid (T3.out.keys1 (by have := HX.out.1; omega))
              clear hb
              go_wp2_with fail
              refine K3.out.mono ?_
              rintro e y4 ⟨v4, rfl, o4, b4⟩
              have SS := Lib.hid (same_any o4.row (HS1.out.next (HB3.out.trans (b4.mono HB3.out.size))))
              have T4 := Lib.hid (T3.out.next b4).1
              clear o4 b4
              go_wp2_with fail
              refine SS.out.mono ?_
              rintro e y5 ⟨rfl, b5⟩
              have B5 := Lib.hid (T4.out.next b5).1.bel
              clear b5
              go_wp2
              go_ret
              exact ⟨rfl, B5.out⟩
set_option maxRecDepth 100000 in
set_option maxHeartbeats 8000000 in
theorem rooms_out (a b : Int) (L : List Ac) (v : Value) (w : World) (hL : ARow w v L) (h : 200 < L.length ∨ (L.length ≤ 200 ∧ a < 1) ∨ (L.length ≤ 200 ∧ 1 ≤ a ∧ 100 < a) ∨ (L.length ≤ 200 ∧ 1 ≤ a ∧ a ≤ 100 ∧ b < 0) ∨ (L.length ≤ 200 ∧ 1 ≤ a ∧ a ≤ 100 ∧ 0 ≤ b ∧ 100 < b)) :
    Calls Try.prog 8 #[.int .i64 a, .int .i64 b, v] w fun e w' => e = .returned (.bool true) ∧ Below w.heap.size w w' := by
  obtain ⟨⟨A, cap, rfl, hlc, hcm, hat⟩, hfit⟩ := hL
  have HL := Lib.hid (lives15 w)
  clear hat hfit
  rcases h with h | ⟨h1, h⟩ | ⟨h1, h2, h⟩ | ⟨h1, h2, h3, h⟩ | ⟨h1, h2, h3, h4, h⟩
  · have i1 : (200 : Int) < (L.length : Int) := by omega
    go_enter Try.func8, Try.ntmps8
    go_wp2_with fail
    refine HL.out.mono ?_
    rintro e w1 ⟨rfl, hb⟩
    have HB := Lib.hid hb
    clear hb
    go_wp2
    go_ret
    exact ⟨rfl, HB.out⟩
  all_goals
    have i1 : ¬ (200 : Int) < (L.length : Int) := by omega
    go_enter Try.func8, Try.ntmps8
    go_wp2_with fail
    refine HL.out.mono ?_
    rintro e w1 ⟨rfl, hb⟩
    have HB := Lib.hid hb
    clear hb
    go_wp2
    go_ret
    exact ⟨rfl, HB.out⟩
theorem LruRooms_walk (a b : Int) (v : Value) (_ : (Lit.int .i64 a).wf = true) (_ : (Lit.int .i64 b).wf = true) (w : World) (L : List Ac) (hL : ARow w v L) :
    Calls Try.prog 8 #[.int .i64 a, .int .i64 b, v] w fun e w' => e = .returned (.bool true) ∧ Below w.heap.size w w' := by
  by_cases h : L.length ≤ 200 ∧ 1 ≤ a ∧ a ≤ 100 ∧ 0 ≤ b ∧ b ≤ 100
  · obtain ⟨h1, h2, h3, h4, h5⟩ := h
    obtain ⟨s, rfl⟩ := Int.eq_ofNat_of_zero_le (show 0 ≤ a by omega)
    obtain ⟨m, rfl⟩ := Int.eq_ofNat_of_zero_le h4
    exact rooms_in s m L v w hL (by omega) (by omega) (by omega) h1
  · exact rooms_out a b L v w hL (by omega)
end Go.Proofs.Ytabhapohkohbmaa
