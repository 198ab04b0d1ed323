/-
  LruLast: the walk. No condition.
-/
import Derived.Test.YtabhapohkohbmaaLrL
import Derived.Test.YtabhapohkohbmaaLrJ
namespace Go.Proofs.Ytabhapohkohbmaa
open Go.RowKit Go.Maps
set_option linter.unusedVariables false
set_option linter.unusedSimpArgs false
attribute [local go_sem] Oper.semAt_some

/-- The law's own: the order's block, the values' map. -/
def LaD (mv : Nat) (vo : Value) : Nat → Prop := fun j => j = mv ∨ vo.ownBlock = some j
/-- What stands between two acts. -/
structure LaS (w : World) (room p mv : Nat) (R : Rw) (E : List (Value × Value)) (vo : Value) (wr : World) : Prop where
  one : One w (LaD mv vo) p room R wr
  row : OwnK wr w.heap.size vo (keysR R)
  map : MapE Try.prog 9 wr mv E
  mvw : w.heap.size ≤ mv
  val : VE E R
def LaRel (w : World) (L : List Ac) (room p mv : Nat) (vo i : Value) (wr : World) : Prop := ∃ (k : Nat) (R : Rw) (E : List (Value × Value)), i = .int .i64 (k : Int) ∧ k ≤ L.length ∧ E.length ≤ k ∧ LaS w room p mv R E vo wr
theorem LaS.next {w wr w' : World} {room p mv : Nat} {R : Rw} {E : List (Value × Value)} {vo : Value} (h : LaS w room p mv R E vo wr) (hb : Below wr.heap.size wr w') : LaS w room p mv R E vo w' := ⟨(h.one.next hb).1, h.row.next hb, h.map.next hb, h.mvw, h.val⟩
theorem LaS.stay {w wr w' : World} {room p mv : Nat} {R R' : Rw} {E : List (Value × Value)} {vo : Value} (h : LaS w room p mv R E vo wr) (h1 : One w (LaD mv vo) p room R' w') (hs : Stay (LaD mv vo) wr w') : OwnK w' w.heap.size vo (keysR R) ∧ MapE Try.prog 9 w' mv E :=
  ⟨h.row.stay fun g hg => hs g (Or.inr hg), h.map.same (hs mv (Or.inl rfl))⟩
/-- Before the next order is made: what the list has become, the order as it was (or without its last), the act in its box. -/
structure LaT (w : World) (room p mv ga : Nat) (ki : Int) (sx : ByteArray) (vx : Int) (R : Rw) (E : List (Value × Value)) (vo : Value) (ord : List ByteArray) (wr : World) : Prop where
  one : One w (fun j => j = mv) p room R wr
  row : SRow wr vo ord
  map : MapE Try.prog 9 wr mv E
  mvw : w.heap.size ≤ mv
  val : VE E R
  box : Lies wr ga 41 #[.int .i64 ki, .string sx, .int .i64 vx]
  keys : keysR R = sx :: filK ord sx
theorem One.less {w wr : World} {D D' : Nat → Prop} {p mst : Nat} {R : Rw} (h : One w D p mst R wr) (hD : ∀ k, D' k → D k) : One w D' p mst R wr := by
  obtain ⟨T, h1, h2, h3, h4⟩ := h
  exact ⟨T, h1, h2, h3, fun k hk => h4 k (hD k hk)⟩
theorem la_upd {w y2 y3 : World} {D : Nat → Prop} {room p mv ga : Nat} {R2 : Rw} {vo : Value} {ord : List ByteArray} {E : List (Value × Value)} {ki vx : Int} {sx : ByteArray} (h1 : One w D p room R2 y2) (hD : D mv) (h2 : OwnK y2 w.heap.size vo ord) (h3 : MapE Try.prog 9 y2 mv E) (hw : w.heap.size ≤ mv) (h4 : Lies y2 ga 41 #[.int .i64 ki, .string sx, .int .i64 vx]) (hg : y2.grownBy y3 (some mv)) :
    One w (fun j => j = mv) p room R2 y3 ∧ OwnK y3 w.heap.size vo ord ∧ Lies y3 ga 41 #[.int .i64 ki, .string sx, .int .i64 vx] := by
  refine ⟨(h1.less (D' := fun j => j = mv) (fun k e => e ▸ hD)).turn (Kl.of_grown hg rfl) (fun k e => e ▸ hw) (fun k e => by have := h3.lt; have := hg.size; omega), ?_, h4.grown hg fun e => lies_ne_mapP h4 h3 (by injection e)⟩
  refine h2.stay fun g hg' => hg.block g (h2.lt g hg').2 fun e => ?_
  injection e with e
  rcases h2.2 with ⟨rfl, _⟩ | ⟨g2, cap, cur, rfl, _, hc, _⟩
  · cases hg'
  · obtain rfl : g2 = g := by simpa [Value.ownBlock] using hg'
    exact lies_ne_mapP hc h3 e
theorem own_take2 {w : World} {b : Nat} {v : Value} {D : List ByteArray} (h : OwnK w b v D) {n : Nat} (hn : n + 1 = D.length) : ∃ g cap, v = .slice (some ⟨g, 0, none⟩) (n + 1) cap ∧ n + 1 ≤ cap ∧ cap ≤ maxLen ∧ SRow w (.slice (some ⟨g, 0, none⟩) n cap) D.dropLast ∧ ∀ j (hj : j < D.length), w.cell? ⟨g, j, none⟩ = some (.string D[j]) := by
  rcases h.2 with ⟨rfl, e⟩ | ⟨g, cap, cur, e, hg, hc, h1, h2, h3, h4⟩
  · omega
  · have hat : ∀ j (hj : j < D.length), w.cell? ⟨g, j, none⟩ = some (.string D[j]) := by
      intro j hj
      rw [cell_of_row w g j cur _ (0, 0) hc]
      have e1 : (D.map Value.string)[j]? = some (.string D[j]) := by rw [List.getElem?_map, List.getElem?_eq_getElem hj]; rfl
      rw [← h4, List.getElem?_take_of_lt (by omega)] at e1
      simpa using e1
    have hld : D.dropLast.length = n := by rw [List.length_dropLast]; omega
    refine ⟨g, cap, by rw [e, hn], by omega, h2, Or.inr ⟨g, 0, cap, by rw [hld], (Array.getElem?_eq_some_iff.1 hc).1, by omega, h2, ?_⟩, hat⟩
    intro j hj
    rw [Nat.zero_add, hat j (by omega), List.getElem_dropLast]
theorem OwnK.base_le {w : World} {b c : Nat} {v : Value} {L : List ByteArray} (h : OwnK w b v L) (hc : c ≤ b) : OwnK w c v L := ⟨h.1, h.2.imp id fun ⟨g, cap, cur, e, hg, r⟩ => ⟨g, cap, cur, e, Nat.le_trans hc hg, r⟩⟩
theorem ownK_one (w : World) (x : ByteArray) : OwnK (w.alloc (.cells #[.string x] 9)) w.heap.size (.slice (some ⟨w.heap.size, 0, none⟩) 1 1) [x] :=
  ⟨rfl, Or.inr ⟨w.heap.size, 1, #[.string x], rfl, Nat.le_refl _, heap_alloc_new w _, Nat.le_refl _, by decide, rfl, rfl⟩⟩
theorem fil_snoc_in {L : List ByteArray} {j : Nat} {y k : ByteArray} (h : L[j]? = some y) (hne : y ≠ k) : filK (L.take (j + 1)) k = filK (L.take j) k ++ [y] := by
  rw [← take_snoc h]
  unfold filK
  rw [List.filter_append, List.filter_cons_of_pos (by simpa using hne)]
  rfl
theorem fil_snoc_out {L : List ByteArray} {j : Nat} {y k : ByteArray} (h : L[j]? = some y) (he : y = k) : filK (L.take (j + 1)) k = filK (L.take j) k := by
  rw [← take_snoc h]
  unfold filK
  rw [List.filter_append, List.filter_cons_of_neg (by simp [he])]
  simp
theorem fil_len {L : List ByteArray} {j : Nat} {k : ByteArray} : (filK (L.take j) k).length ≤ L.length := Nat.le_trans (List.length_filter_le _ _) (by simp; omega)
/-- Between two rounds of the inner loop: j of them have been looked at. -/
def LnRel (y3 : World) (sx : ByteArray) (ord : List ByteArray) (vn i : Value) (wr : World) : Prop := ∃ j : Nat, i = .int .i64 (j : Int) ∧ j ≤ ord.length ∧ OwnK wr y3.heap.size vn (sx :: filK (ord.take j) sx) ∧ Below y3.heap.size y3 wr
theorem pick_two (i : Int) : pick i 2 = 0 ∨ pick i 2 = 1 := by
  have := pick_range (i := i) (n := 2) (by omega)
  omega
set_option maxRecDepth 100000 in
set_option maxHeartbeats 16000000 in
theorem last_in (room : Nat) (L : List Ac) (v : Value) (w : World) (hL : ARow w v L) (hs1 : 1 ≤ room) (hs2 : room ≤ 100) (hl : L.length ≤ 200) :
    Calls Try.prog 6 #[.int .i64 (room : Int), v] w fun e w' => e = .returned (.bool true) ∧ Below w.heap.size w w' := by
  obtain ⟨⟨A, cap, rfl, hlc, hcm, hat⟩, hfit⟩ := hL
  have HL := Lib.hid (lives15 w)
  have HAt := Lib.hid hat
  have HF := Lib.hid hfit
  clear hat hfit
  have i1 : ¬ (200 : Int) < (L.length : Int) := by omega
  have i2 : ¬ (room : Int) < 1 := by omega
  have i3 : ¬ (100 : Int) < (room : Int) := by omega
  obtain ⟨i0, hi, hz0, hz1, hz2⟩ := info_parts infoS
  have hmm := @run_makeMap Try.prog
  go_enter Try.func6, Try.ntmps6
  go_wp2_with fail
  refine HL.out.mono ?_
  rintro e w1 ⟨rfl, hb⟩
  have N1 := Lib.hid (One.new (w := w) (D := fun _ => False) hb (fun k h => h.elim) (room : Int))
  have e1 : (room : Int).toNat = room := by omega
  rw [e1] at N1
  clear hb HL e1
  go_wp2_with fail
  refine N1.out.mono ?_
  rintro e w2 ⟨p, rfl, h2, hb2⟩
  obtain ⟨mv, hmv⟩ : ∃ mv, w2.heap.size = mv := ⟨_, rfl⟩
  have hB2 := h2.bel
  have HR0 : Hid (LaRel w L room p mv (.slice none 0 0) (.int .i64 0) (w2.alloc (.map #[] 0))) := Lib.hid ⟨0, [], [], rfl, Nat.zero_le _, Nat.le_refl _, h2.more ((Below.refl _ _).alloc (Nat.le_refl _) _) (fun k hk => by
      rcases hk with rfl | hk
      · refine Or.inr ⟨by omega, ?_⟩
        rw [World.size_alloc]
        omega
      · cases hk), World.ownsRow_nil _ _ _ _, by rw [← hmv]; exact MapE.new _ _ _, by have := hB2.size; omega, fun x hx => by cases hx⟩
  clear h2 hb2 hB2 N1 i1 i2 i3
  go_wp2
  clear hmm hmv
  go_loopw [6, 8] (fun vo i wr => LaRel w L room p mv vo i wr) (fun _ i _ => L.length - (intOf i).toNat)
  case atStart => exact HR0.out
  case round =>
    clear HR0
    obtain ⟨k, R, E, rfl, hk, hE, hS⟩ := hrel
    have HS := Lib.hid hS
    by_cases hlt : k < L.length
    · obtain ⟨g, o, rfl, hg, hac⟩ := HAt.out k hlt
      obtain ⟨x, hx⟩ : ∃ x, L[k] = x := ⟨_, rfl⟩
      have hxf := HF.out L[k] (List.getElem_mem hlt)
      rw [hx] at hac hxf
      obtain ⟨ki, sx, vx⟩ := x
      have hac1 := hac.below hS.one.bel hg
      have a0 := hac1.kind
      have a1 := hac1.s
      have a2 := hac1.v
      have j1 : (k : Int) < L.length := by omega
      simp only at a0 a1 a2
      have HLt := Lib.hid (And.intro hlt hE)
      clear hac hac1 hx hS hg
      obtain ⟨Y0, hY0⟩ : ∃ Y0, wr.alloc (.cells #[.int .i64 ki, .string sx, .int .i64 vx] 41) = Y0 := ⟨_, rfl⟩
      obtain ⟨ga, hga⟩ : ∃ ga, wr.heap.size = ga := ⟨_, rfl⟩
      have hbY : Below wr.heap.size wr Y0 := by rw [← hY0]; exact (Below.refl _ _).alloc (Nat.le_refl _) _
      have hlA : Lies Y0 ga 41 #[.int .i64 ki, .string sx, .int .i64 vx] := by rw [← hY0, ← hga]; exact Lies.new _ _ _
      have HY := Lib.hid hY0
      have HSY := Lib.hid (HS.out.next hbY)
      have HOY : Hid (One w (fun j => LaD mv u6 j ∨ j = ga) p room R Y0) := Lib.hid (HS.out.one.more hbY fun k hk => hk.elim Or.inl fun e => Or.inr ⟨by omega, by rw [← hY0, World.size_alloc]; omega⟩)
      have HLA := Lib.hid hlA
      have HGA := Lib.hid hga
      clear hbY hlA hY0 hga
      go_upto_region 12 with (fail)
      rw [HY.out, HGA.out]
      have b0 := HLA.out.cell 0
      have b1 := HLA.out.cell 1
      have b2 := HLA.out.cell 2
      simp at b0 b1 b2
      clear a0 a1 a2 j1 HY HS
      by_cases h100 : 100 < sx.size
      · have j2 : (100 : Int) < (sx.size : Int) := by omega
        have HB := Lib.hid HSY.out.one.bel
        go_wp2
        go_ret
        exact ⟨rfl, HB.out⟩
      · have j2 : ¬ (100 : Int) < (sx.size : Int) := by omega
        have hsm : sx.size ≤ maxLen := Nat.le_trans (by omega : sx.size ≤ 100) (by decide)
        have hs48 : sx.size ≤ 281474976710656 := by omega
        have hu := HSY.out.one.unlike
        have hle := HSY.out.one.le
        have P1 := Lib.hid (HSY.out.one.look hsm)
        have HPk := Lib.hid (fun wx => Pick_any ki 2 wx (by omega) (by omega))
        have HM := Lib.hid (And.intro hsm (And.intro hs48 (And.intro hu hle)))
        rcases look_cases R sx hu with ⟨hlk, hnot⟩ | ⟨⟨xk, xv⟩, hxm, hxe, hlk⟩ <;> rcases pick_two ki with hpk | hpk
        all_goals
          rw [hpk] at HPk
          rw [hlk] at P1
          clear h100 hsm hs48 hu hle
          go_upto_region 15 with (go_at_call 25; refine P1.out.mono ?_; rintro e y1 ⟨rfl, _, _, hb1⟩; have HB1 := Lib.hid hb1; have HS1 := Lib.hid (HSY.out.next hb1); have HA1 := Lib.hid (HLA.out.next hb1); have HO1 := Lib.hid (HOY.out.next hb1).1; clear hb1)
          clear b0 b1 b2
          have b0 := HA1.out.cell 0
          have b1 := HA1.out.cell 1
          have b2 := HA1.out.cell 2
          simp at b0 b1 b2
        · obtain ⟨A6, c6, e6⟩ := ownK_shape HS1.out.row
          have hkl : (keysR R).length = R.length := by simp [keysR]
          rw [hkl] at e6
          by_cases hfull : R.length = room
          · obtain ⟨last, ek, hpr, ekk⟩ := put_full (R := R) (k := sx) (v := vx) (mst := room) (by omega) hfull hnot
            have P2 := Lib.hid (HO1.out.put (k := sx) HM.out.2.1 (by have := HM.out.2.2.2; omega) (by omega) vx)
            rw [hpr] at P2
            have hVp : Hid (∀ E', (Value.string sx, Value.int .i64 vx) ∈ E' → (∀ q ∈ E, q.1 ≠ .string sx → q ∈ E') → VE E' ((sx, vx) :: R.dropLast)) := Lib.hid (fun E' q1 q2 => by
              have := HS1.out.val.put q1 q2 room (by omega) HM.out.2.2.2
              rwa [hpr] at this)
            have hrm : room - 1 + 1 = room := by omega
            obtain ⟨g6, c6', e6', hn6, hc6, _, hat6⟩ := own_take2 HS1.out.row (n := room - 1) (by rw [hkl]; omega)
            rw [hrm] at e6' hn6
            clear e6
            subst e6'
            have hdl : (keysR R).dropLast.length = room - 1 := by rw [List.length_dropLast, hkl]; omega
            have HLast : Hid (∀ (j : Nat) (hj : j < (keysR R).length), j = room - 1 → (keysR R)[j] = last) := Lib.hid (fun j hj e => by
              have h1 : (keysR R)[room - 1]? = some last := by rw [ek, List.getElem?_append_right (by omega), hdl, Nat.sub_self]; rfl
              subst e
              rw [List.getElem_eq_iff]
              exact h1)
            have HEK := Lib.hid ekk
            unfold maxLen at hc6
            clear hnot hlk hpr hat6 ek hkl hdl
            go_upto_region 21 with (first | (go_at_call 20; refine (HPk.out _).mono ?_; rintro e _ ⟨rfl, rfl⟩) | (go_at_call 21; refine P2.out.mono ?_; rintro e y2 ⟨rfl, o2, s2⟩; have hst := HS1.out.stay (R' := ((sx, vx) :: R.dropLast)) (o2.less fun k h => Or.inl h) (fun k h => s2 k (Or.inl h)); have HA2 := Lib.hid (show Lies y2 ga 41 #[.int .i64 ki, .string sx, .int .i64 vx] from (s2 ga (Or.inr rfl)).trans HA1.out); have HST := Lib.hid hst; have HO2 := Lib.hid o2; clear hst o2 s2; have d0 := HA2.out.cell 0; have d1 := HA2.out.cell 1; have d2 := HA2.out.cell 2; simp at d0 d1 d2))
            obtain ⟨g7, c7', e7', _, _, hrow7, hat7⟩ := own_take2 HST.out.1 (n := room - 1) (by simp [keysR]; omega)
            rw [hrm] at e7'
            injection e7' with e7a e7b e7c
            injection e7a with e7a
            injection e7a with e7a _ _
            subst e7a e7c
            have hcl : y2.cell? ⟨g6, room - 1, none⟩ = some (.string last) := by
              have hj : room - 1 < (keysR R).length := by simp [keysR]; omega
              rw [hat7 (room - 1) hj, HLast.out (room - 1) hj rfl]
            clear hrow7 hat7 e7b hrm
            go_upto_region 26 with (fail)
            obtain ⟨y3, E', hr3, hM3, hin3, hold3, hlen3, hg3, hs3⟩ := HST.out.2.upd skeyL Try.underlying59 (Nat.lt_of_le_of_lt HLt.out.2 (by unfold maxLen; omega)) (key := .string sx) (val := .int .i64 vx) (keyK HM.out.1)
            obtain ⟨u1, u2, u3⟩ := la_upd HO2.out (Or.inl (Or.inl rfl)) HST.out.1 HST.out.2 HS1.out.mvw HA2.out hg3
            obtain ⟨g8, c8, e8, _, _, hrow8, _⟩ := own_take2 u2 (n := room - 1) (by simp [keysR]; omega)
            injection e8 with e8a e8b e8c
            injection e8a with e8a
            injection e8a with e8a _ _
            subst e8a e8c
            have HT : Hid (LaT w room p mv ga ki sx vx ((sx, vx) :: R.dropLast) E' (.slice (some ⟨g6, 0, none⟩) (room - 1) c6') (keysR R).dropLast y3) := Lib.hid ⟨u1, hrow8, hM3, HS1.out.mvw, hVp.out E' hin3 hold3, u3, HEK.out⟩
            have HE3 : Hid (E'.length ≤ k + 1) := Lib.hid (by have := HLt.out.2; omega)
            clear hM3 hin3 hold3 hlen3 hg3 hs3 u1 u2 u3 hrow8 e8b hcl
            go_upto_region 27 with (fail)
            clear hr3 d0 d1 d2
            have d0 := HT.out.box.cell 0
            have d1 := HT.out.box.cell 1
            have d2 := HT.out.box.cell 2
            simp at d0 d1 d2
            obtain ⟨N1, hN1⟩ : ∃ N1, room - 1 = N1 := ⟨_, rfl⟩
            rw [hN1] at HT ⊢
            clear HLast hN1
            obtain ⟨A', cap', e', _, _, hat'⟩ := row_at HT.out.row
            injection e' with e1 e2 e3
            subst e1 e3
            have HAT := Lib.hid hat'
            have hNO : (keysR R).dropLast.length = N1 := e2.symm
            clear e2
            have hon : (keysR R).dropLast.length ≤ 1000 := by
              have := HM.out.2.2.2
              have : (keysR R).length = R.length := by simp [keysR]
              rw [List.length_dropLast]; omega
            clear hat'
            have HR1 : Hid (LnRel y3 sx (keysR R).dropLast (.slice (some ⟨y3.heap.size, 0, none⟩) 1 1) (.int .i64 0) (y3.alloc (.cells #[.string sx] 9))) := Lib.hid ⟨0, rfl, Nat.zero_le _, ownK_one _ _, (Below.refl _ _).alloc (Nat.le_refl _) _⟩
            have HNO := Lib.hid (And.intro hNO hon)
            clear hNO hon
            go_wp2
            clear d0 d1 d2
            go_loopw [18, 19] (fun vn i wz => LnRel y3 sx (keysR R).dropLast vn i wz) (fun _ i _ => N1 - (intOf i).toNat)
            case atStart => exact HR1.out
            case round =>
              clear HR1
              obtain ⟨j, rfl, hj, hrow, hbj⟩ := hrel
              have HBJ := Lib.hid hbj
              obtain ⟨D, hD⟩ : ∃ D, sx :: filK ((keysR R).dropLast.take j) sx = D := ⟨_, rfl⟩
              rw [hD] at hrow
              have HROW := Lib.hid hrow
              have HDD := Lib.hid hD
              have hno := HNO.out.1
              have hjb : j ≤ 1001 := by have := HNO.out.2; omega
              by_cases hjn : j < N1
              · have hjo : j < (keysR R).dropLast.length := by omega
                obtain ⟨gj, oj, hA', hgj, hxj⟩ := HAT.out j hjo
                obtain ⟨y, hy⟩ : ∃ y, (keysR R).dropLast[j]? = some y := ⟨_, List.getElem?_eq_getElem hjo⟩
                rw [(List.getElem_eq_iff hjo).2 hy] at hxj
                have z1 : wr.cell? ⟨gj, oj + j, none⟩ = some (.string y) := (hbj.cell (p := ⟨gj, oj + j, none⟩) hgj).trans hxj
                have q1 : (j : Int) < (N1 : Int) := by omega
                have z2 := (HT.out.box.below hbj HT.out.box.lt).cell 1
                simp at z2
                have HY := Lib.hid (And.intro hy hjn)
                have hDl : D.length ≤ 1001 := by
                  have h1 := fil_len (L := (keysR R).dropLast) (j := j) (k := sx)
                  have h2 := HNO.out.2
                  rw [← hD]
                  simp
                  omega
                injection hA' with hA'
                injection hA' with hA1 hA2 _
                subst hA1 hA2
                rw [Nat.zero_add] at z1
                obtain ⟨A18, c18, e18⟩ := ownK_shape hrow
                subst e18
                clear hD hxj hgj hy hjo hno hbj
                by_cases hyx : y = sx
                · have hq : (y.toList == sx.toList) = true := by rw [hyx]; simp
                  clear hrow
                  go_wp2
                  go_region
                  all_goals
                    clear z1 z2 q1 hq
                    go_wp2
                    go_roundw
                    case rel => exact ⟨j + 1, by go_num, by have := HY.out.2; have := HNO.out.1; omega, by rw [fil_snoc_out HY.out.1 hyx, HDD.out]; exact HROW.out.next (Below.refl _ _).drew, HBJ.out.trans ((Below.refl _ _).drew.mono HBJ.out.size)⟩
                    case measure => have := HY.out.2; simp [intOf]; omega
                · have hq : (y.toList == sx.toList) = false := by
                    rw [beq_eq_false_iff_ne]
                    intro e
                    rw [bs_toList, bs_toList] at e
                    exact hyx (ByteArray.ext (Array.toList_inj.1 e))
                  clear hrow
                  go_wp2
                  go_region
                  all_goals
                    clear hq
                    have hrow := HROW.out.next (Below.refl _ wr).drew
                    have hbase : y3.heap.size ≤ (wr.drew.alloc (.cells #[.string y] 9)).heap.size := by have := HBJ.out.size; simp; omega
                    go_wp2_with (at_builtin; refine wpList_append_own_at _ rfl _ _ 50 rfl y3.heap.size 9 i0 (.string ⟨#[]⟩) 1 16 Try.underlying50 hi hz0 hz1 hz2 rfl (by decide) (.slice A18 D.length c18) D.length (D.map Value.string) rfl (World.ownsRow.alloc hrow _) ⟨wr.drew.heap.size, 0, none⟩ 1 1 [.string y] rfl rfl (cell_one_new _ _ _) (fun u hu => by rw [List.mem_singleton.1 hu]; rfl) (by unfold maxLen; omega) (by omega) hbase ?_; intro v' w4 hown' hgrow _ hob; obtain ⟨g', cap9, rfl⟩ := ownsRow_succ hown'; have HN4 : Hid (LnRel y3 sx (keysR R).dropLast (.slice (some ⟨g', 0, none⟩) (D.length + 1) cap9) (.int .i64 ((j + 1 : Nat) : Int)) w4) := Lib.hid ⟨j + 1, rfl, by have := HY.out.2; have := HNO.out.1; omega, by rw [fil_snoc_in HY.out.1 hyx, ← List.cons_append, HDD.out]; unfold OwnK; rw [List.map_append, List.length_append]; exact hown', ((HBJ.out.trans ((Below.refl _ wr).drew.mono HBJ.out.size)).alloc HBJ.out.size _).grown hgrow hbase (fun q hq => (HROW.out.lt q hq).1)⟩; clear hown' hgrow hob)
                    clear z1 z2 q1
                    go_roundw
                    case rel =>
                      obtain ⟨j', e1, e2, e3, e4⟩ := HN4.out
                      obtain rfl : j + 1 = j' := by simp at e1; omega
                      exact ⟨j + 1, by go_num, e2, e3, e4⟩
                    case measure => have := HY.out.2; simp [intOf]; omega
              · have q1 : ¬ (j : Int) < (N1 : Int) := by omega
                have hjo : j = (keysR R).dropLast.length := by omega
                have hkk : D = keysR ((sx, vx) :: R.dropLast) := by rw [← hD, HT.out.keys, hjo, List.take_length]
                rw [hkk] at hrow
                have P5 := Lib.hid ((HT.out.one.next hbj).1.keys (by have := (HT.out.one).le; omega))
                have HROW2 := Lib.hid hrow
                clear hrow hkk hjo hD hno hbj
                go_wp2_with fail
                refine P5.out.mono ?_
                rintro e y5 ⟨v5, rfl, o5, _, _, hb5⟩
                have SS := Lib.hid (same_any o5.row (HROW2.out.next hb5).row)
                have HB5 := Lib.hid hb5
                clear o5 hb5
                go_wp2_with fail
                refine SS.out.mono ?_
                rintro e y6 ⟨rfl, hb6⟩
                have hb36 : Below y3.heap.size y3 y6 := (HBJ.out.trans (HB5.out.mono HBJ.out.size)).trans (hb6.mono (Nat.le_trans HBJ.out.size HB5.out.size))
                have hr6 := (HROW2.out.next HB5.out).next hb6
                have HLS : Hid (LaS w room p mv ((sx, vx) :: R.dropLast) E' u18 y6) := Lib.hid ⟨HT.out.one.more hb36 fun q hq => hq.elim Or.inl fun hq => Or.inr (hr6.lt q hq), hr6.base_le HT.out.one.bel.size, HT.out.map.next hb36, HT.out.mvw, HT.out.val⟩
                clear hb6 hb36 hr6
                go_wp2
                go_roundw
                case rel => exact ⟨k + 1, ((sx, vx) :: R.dropLast), E', by go_num, HLt.out.1, HE3.out, HLS.out⟩
                case measure => have := HLt.out.1; simp [intOf]; omega
          · have hpr := put_room (R := R) (k := sx) (v := vx) (mst := room) (by omega) (by rw [add_len_out hnot]; have := HM.out.2.2.2; omega)
            have P2 := Lib.hid (HO1.out.put (k := sx) HM.out.2.1 (by have := HM.out.2.2.2; omega) (by omega) vx)
            rw [hpr] at P2
            have hVp : Hid (∀ E', (Value.string sx, Value.int .i64 vx) ∈ E' → (∀ q ∈ E, q.1 ≠ .string sx → q ∈ E') → VE E' (addR R sx vx)) := Lib.hid (fun E' q1 q2 => by
              have := HS1.out.val.put q1 q2 room (by omega) HM.out.2.2.2
              rwa [hpr] at this)
            have hne : ((R.length : Int) == (room : Int)) = false := by rw [beq_eq_false_iff_ne]; omega
            subst e6
            clear hnot hlk hpr hfull hkl
            go_upto_region 26 with (first | (go_at_call 20; refine (HPk.out _).mono ?_; rintro e _ ⟨rfl, rfl⟩) | (go_at_call 21; refine P2.out.mono ?_; rintro e y2 ⟨rfl, o2, s2⟩; have hst := HS1.out.stay (R' := addR R sx vx) (o2.less fun k h => Or.inl h) (fun k h => s2 k (Or.inl h)); have HA2 := Lib.hid (show Lies y2 ga 41 #[.int .i64 ki, .string sx, .int .i64 vx] from (s2 ga (Or.inr rfl)).trans HA1.out); have HST := Lib.hid hst; have HO2 := Lib.hid o2; clear hst o2 s2; have d0 := HA2.out.cell 0; have d1 := HA2.out.cell 1; have d2 := HA2.out.cell 2; simp at d0 d1 d2))
            obtain ⟨y3, E', hr3, hM3, hin3, hold3, hlen3, hg3, hs3⟩ := HST.out.2.upd skeyL Try.underlying59 (Nat.lt_of_le_of_lt HLt.out.2 (by unfold maxLen; omega)) (key := .string sx) (val := .int .i64 vx) (keyK HM.out.1)
            obtain ⟨u1, u2, u3⟩ := la_upd HO2.out (Or.inl (Or.inl rfl)) HST.out.1 HST.out.2 HS1.out.mvw HA2.out hg3
            have HT : Hid (LaT w room p mv ga ki sx vx (addR R sx vx) E' (.slice A6 R.length c6) (keysR R) y3) := Lib.hid ⟨u1, u2.row, hM3, HS1.out.mvw, hVp.out E' hin3 hold3, u3, keys_add⟩
            have HE3 : Hid (E'.length ≤ k + 1) := Lib.hid (by have := HLt.out.2; omega)
            clear hM3 hin3 hold3 hlen3 hg3 hs3 u1 u2 u3
            go_upto_region 27 with (fail)
            clear hr3 d0 d1 d2
            have d0 := HT.out.box.cell 0
            have d1 := HT.out.box.cell 1
            have d2 := HT.out.box.cell 2
            simp at d0 d1 d2
            obtain ⟨A', cap', e', _, _, hat'⟩ := row_at HT.out.row
            injection e' with e1 e2 e3
            subst e1 e3
            have HAT := Lib.hid hat'
            have hNO : (keysR R).length = R.length := e2.symm
            clear e2
            have hon : (keysR R).length ≤ 1000 := by
              have := HM.out.2.2.2
              have : (keysR R).length = R.length := by simp [keysR]
              omega
            clear hat'
            have HR1 : Hid (LnRel y3 sx (keysR R) (.slice (some ⟨y3.heap.size, 0, none⟩) 1 1) (.int .i64 0) (y3.alloc (.cells #[.string sx] 9))) := Lib.hid ⟨0, rfl, Nat.zero_le _, ownK_one _ _, (Below.refl _ _).alloc (Nat.le_refl _) _⟩
            have HNO := Lib.hid (And.intro hNO hon)
            clear hNO hon
            go_wp2
            clear hne
            clear d0 d1 d2
            go_loopw [18, 19] (fun vn i wz => LnRel y3 sx (keysR R) vn i wz) (fun _ i _ => R.length - (intOf i).toNat)
            case atStart => exact HR1.out
            case round =>
              clear HR1
              obtain ⟨j, rfl, hj, hrow, hbj⟩ := hrel
              have HBJ := Lib.hid hbj
              obtain ⟨D, hD⟩ : ∃ D, sx :: filK ((keysR R).take j) sx = D := ⟨_, rfl⟩
              rw [hD] at hrow
              have HROW := Lib.hid hrow
              have HDD := Lib.hid hD
              have hno := HNO.out.1
              have hjb : j ≤ 1001 := by have := HNO.out.2; omega
              by_cases hjn : j < R.length
              · have hjo : j < (keysR R).length := by omega
                obtain ⟨gj, oj, hA', hgj, hxj⟩ := HAT.out j hjo
                obtain ⟨y, hy⟩ : ∃ y, (keysR R)[j]? = some y := ⟨_, List.getElem?_eq_getElem hjo⟩
                rw [(List.getElem_eq_iff hjo).2 hy] at hxj
                have z1 : wr.cell? ⟨gj, oj + j, none⟩ = some (.string y) := (hbj.cell (p := ⟨gj, oj + j, none⟩) hgj).trans hxj
                have q1 : (j : Int) < (R.length : Int) := by omega
                have z2 := (HT.out.box.below hbj HT.out.box.lt).cell 1
                simp at z2
                have HY := Lib.hid (And.intro hy hjn)
                have hDl : D.length ≤ 1001 := by
                  have h1 := fil_len (L := (keysR R)) (j := j) (k := sx)
                  have h2 := HNO.out.2
                  rw [← hD]
                  simp
                  omega
                subst hA'
                obtain ⟨A18, c18, e18⟩ := ownK_shape hrow
                subst e18
                clear hD hxj hgj hy hjo hno hbj
                by_cases hyx : y = sx
                · have hq : (y.toList == sx.toList) = true := by rw [hyx]; simp
                  clear hrow
                  go_wp2
                  go_region
                  all_goals
                    clear z1 z2 q1 hq
                    go_wp2
                    go_roundw
                    case rel => exact ⟨j + 1, by go_num, by have := HY.out.2; have := HNO.out.1; omega, by rw [fil_snoc_out HY.out.1 hyx, HDD.out]; exact HROW.out.next (Below.refl _ _).drew, HBJ.out.trans ((Below.refl _ _).drew.mono HBJ.out.size)⟩
                    case measure => have := HY.out.2; simp [intOf]; omega
                · have hq : (y.toList == sx.toList) = false := by
                    rw [beq_eq_false_iff_ne]
                    intro e
                    rw [bs_toList, bs_toList] at e
                    exact hyx (ByteArray.ext (Array.toList_inj.1 e))
                  clear hrow
                  go_wp2
                  go_region
                  all_goals
                    clear hq
                    have hrow := HROW.out.next (Below.refl _ wr).drew
                    have hbase : y3.heap.size ≤ (wr.drew.alloc (.cells #[.string y] 9)).heap.size := by have := HBJ.out.size; simp; omega
                    go_wp2_with (at_builtin; refine wpList_append_own_at _ rfl _ _ 50 rfl y3.heap.size 9 i0 (.string ⟨#[]⟩) 1 16 Try.underlying50 hi hz0 hz1 hz2 rfl (by decide) (.slice A18 D.length c18) D.length (D.map Value.string) rfl (World.ownsRow.alloc hrow _) ⟨wr.drew.heap.size, 0, none⟩ 1 1 [.string y] rfl rfl (cell_one_new _ _ _) (fun u hu => by rw [List.mem_singleton.1 hu]; rfl) (by unfold maxLen; omega) (by omega) hbase ?_; intro v' w4 hown' hgrow _ hob; obtain ⟨g', cap9, rfl⟩ := ownsRow_succ hown'; have HN4 : Hid (LnRel y3 sx (keysR R) (.slice (some ⟨g', 0, none⟩) (D.length + 1) cap9) (.int .i64 ((j + 1 : Nat) : Int)) w4) := Lib.hid ⟨j + 1, rfl, by have := HY.out.2; have := HNO.out.1; omega, by rw [fil_snoc_in HY.out.1 hyx, ← List.cons_append, HDD.out]; unfold OwnK; rw [List.map_append, List.length_append]; exact hown', ((HBJ.out.trans ((Below.refl _ wr).drew.mono HBJ.out.size)).alloc HBJ.out.size _).grown hgrow hbase (fun q hq => (HROW.out.lt q hq).1)⟩; clear hown' hgrow hob)
                    clear z1 z2 q1
                    go_roundw
                    case rel =>
                      obtain ⟨j', e1, e2, e3, e4⟩ := HN4.out
                      obtain rfl : j + 1 = j' := by simp at e1; omega
                      exact ⟨j + 1, by go_num, e2, e3, e4⟩
                    case measure => have := HY.out.2; simp [intOf]; omega
              · have q1 : ¬ (j : Int) < (R.length : Int) := by omega
                have hjo : j = (keysR R).length := by omega
                have hkk : D = keysR (addR R sx vx) := by rw [← hD, HT.out.keys, hjo, List.take_length]
                rw [hkk] at hrow
                have P5 := Lib.hid ((HT.out.one.next hbj).1.keys (by have := (HT.out.one).le; omega))
                have HROW2 := Lib.hid hrow
                clear hrow hkk hjo hD hno hbj
                go_wp2_with fail
                refine P5.out.mono ?_
                rintro e y5 ⟨v5, rfl, o5, _, _, hb5⟩
                have SS := Lib.hid (same_any o5.row (HROW2.out.next hb5).row)
                have HB5 := Lib.hid hb5
                clear o5 hb5
                go_wp2_with fail
                refine SS.out.mono ?_
                rintro e y6 ⟨rfl, hb6⟩
                have hb36 : Below y3.heap.size y3 y6 := (HBJ.out.trans (HB5.out.mono HBJ.out.size)).trans (hb6.mono (Nat.le_trans HBJ.out.size HB5.out.size))
                have hr6 := (HROW2.out.next HB5.out).next hb6
                have HLS : Hid (LaS w room p mv (addR R sx vx) E' u18 y6) := Lib.hid ⟨HT.out.one.more hb36 fun q hq => hq.elim Or.inl fun hq => Or.inr (hr6.lt q hq), hr6.base_le HT.out.one.bel.size, HT.out.map.next hb36, HT.out.mvw, HT.out.val⟩
                clear hb6 hb36 hr6
                go_wp2
                go_roundw
                case rel => exact ⟨k + 1, (addR R sx vx), E', by go_num, HLt.out.1, HE3.out, HLS.out⟩
                case measure => have := HLt.out.1; simp [intOf]; omega
        · go_wp2_with (go_at_call 20; refine (HPk.out _).mono ?_; rintro e _ ⟨rfl, rfl⟩)
          go_roundw
          case rel => exact ⟨k + 1, R, E, by go_num, HLt.out.1, by have := HLt.out.2; omega, HS1.out⟩
          case measure => have := HLt.out.1; simp [intOf]; omega
        · have hxe : xk = sx := hxe
          have hlk : lookR R sx = some xv := hlk
          rw [hxe] at hxm
          have hpr := put_room (R := R) (k := sx) (v := vx) (mst := room) (by omega) (Nat.le_trans (add_len_in HM.out.2.2.1 hxm) HM.out.2.2.2)
          have P2 := Lib.hid (HO1.out.put (k := sx) HM.out.2.1 (by have := HM.out.2.2.2; omega) (by omega) vx)
          rw [hpr] at P2
          have hVp : Hid (∀ E', (Value.string sx, Value.int .i64 vx) ∈ E' → (∀ q ∈ E, q.1 ≠ .string sx → q ∈ E') → VE E' (addR R sx vx)) := Lib.hid (fun E' q1 q2 => by
            have := HS1.out.val.put q1 q2 room (by omega) HM.out.2.2.2
            rwa [hpr] at this)
          clear hxm hxe hlk hpr
          go_upto_region 26 with (first | (go_at_call 20; refine (HPk.out _).mono ?_; rintro e _ ⟨rfl, rfl⟩) | (go_at_call 21; refine P2.out.mono ?_; rintro e y2 ⟨rfl, o2, s2⟩; have hst := HS1.out.stay (R' := addR R sx vx) (o2.less fun k h => Or.inl h) (fun k h => s2 k (Or.inl h)); have HA2 := Lib.hid (show Lies y2 ga 41 #[.int .i64 ki, .string sx, .int .i64 vx] from (s2 ga (Or.inr rfl)).trans HA1.out); have HST := Lib.hid hst; have HO2 := Lib.hid o2; clear hst o2 s2; have d0 := HA2.out.cell 0; have d1 := HA2.out.cell 1; have d2 := HA2.out.cell 2; simp at d0 d1 d2))
          obtain ⟨y3, E', hr3, hM3, hin3, hold3, hlen3, hg3, hs3⟩ := HST.out.2.upd skeyL Try.underlying59 (Nat.lt_of_le_of_lt HLt.out.2 (by unfold maxLen; omega)) (key := .string sx) (val := .int .i64 vx) (keyK HM.out.1)
          obtain ⟨u1, u2, u3⟩ := la_upd HO2.out (Or.inl (Or.inl rfl)) HST.out.1 HST.out.2 HS1.out.mvw HA2.out hg3
          have HT : Hid (LaT w room p mv ga ki sx vx (addR R sx vx) E' u6 (keysR R) y3) := Lib.hid ⟨u1, u2.row, hM3, HS1.out.mvw, hVp.out E' hin3 hold3, u3, keys_add⟩
          have HE3 : Hid (E'.length ≤ k + 1) := Lib.hid (by have := HLt.out.2; omega)
          clear hM3 hin3 hold3 hlen3 hg3 hs3 u1 u2 u3
          go_upto_region 27 with (fail)
          clear hr3 d0 d1 d2
          have d0 := HT.out.box.cell 0
          have d1 := HT.out.box.cell 1
          have d2 := HT.out.box.cell 2
          simp at d0 d1 d2
          obtain ⟨A', cap', e', _, _, hat'⟩ := row_at HT.out.row
          subst e'
          have HAT := Lib.hid hat'
          have hNO : (keysR R).length = (keysR R).length := rfl
          have hon : (keysR R).length ≤ 1000 := by
            have := HM.out.2.2.2
            have : (keysR R).length = R.length := by simp [keysR]
            omega
          clear hat'
          have HR1 : Hid (LnRel y3 sx (keysR R) (.slice (some ⟨y3.heap.size, 0, none⟩) 1 1) (.int .i64 0) (y3.alloc (.cells #[.string sx] 9))) := Lib.hid ⟨0, rfl, Nat.zero_le _, ownK_one _ _, (Below.refl _ _).alloc (Nat.le_refl _) _⟩
          have HNO := Lib.hid (And.intro hNO hon)
          clear hNO hon
          go_wp2
          clear d0 d1 d2
          go_loopw [18, 19] (fun vn i wz => LnRel y3 sx (keysR R) vn i wz) (fun _ i _ => (keysR R).length - (intOf i).toNat)
          case atStart => exact HR1.out
          case round =>
            clear HR1
            obtain ⟨j, rfl, hj, hrow, hbj⟩ := hrel
            have HBJ := Lib.hid hbj
            obtain ⟨D, hD⟩ : ∃ D, sx :: filK ((keysR R).take j) sx = D := ⟨_, rfl⟩
            rw [hD] at hrow
            have HROW := Lib.hid hrow
            have HDD := Lib.hid hD
            have hno := HNO.out.1
            have hjb : j ≤ 1001 := by have := HNO.out.2; omega
            by_cases hjn : j < (keysR R).length
            · have hjo : j < (keysR R).length := by omega
              obtain ⟨gj, oj, hA', hgj, hxj⟩ := HAT.out j hjo
              obtain ⟨y, hy⟩ : ∃ y, (keysR R)[j]? = some y := ⟨_, List.getElem?_eq_getElem hjo⟩
              rw [(List.getElem_eq_iff hjo).2 hy] at hxj
              have z1 : wr.cell? ⟨gj, oj + j, none⟩ = some (.string y) := (hbj.cell (p := ⟨gj, oj + j, none⟩) hgj).trans hxj
              have q1 : (j : Int) < ((keysR R).length : Int) := by omega
              have z2 := (HT.out.box.below hbj HT.out.box.lt).cell 1
              simp at z2
              have HY := Lib.hid (And.intro hy hjn)
              have hDl : D.length ≤ 1001 := by
                have h1 := fil_len (L := (keysR R)) (j := j) (k := sx)
                have h2 := HNO.out.2
                rw [← hD]
                simp
                omega
              subst hA'
              obtain ⟨A18, c18, e18⟩ := ownK_shape hrow
              subst e18
              clear hD hxj hgj hy hjo hno hbj
              by_cases hyx : y = sx
              · have hq : (y.toList == sx.toList) = true := by rw [hyx]; simp
                clear hrow
                go_wp2
                go_region
                all_goals
                  clear z1 z2 q1 hq
                  go_wp2
                  go_roundw
                  case rel => exact ⟨j + 1, by go_num, by have := HY.out.2; have := HNO.out.1; omega, by rw [fil_snoc_out HY.out.1 hyx, HDD.out]; exact HROW.out.next (Below.refl _ _).drew, HBJ.out.trans ((Below.refl _ _).drew.mono HBJ.out.size)⟩
                  case measure => have := HY.out.2; simp [intOf]; omega
              · have hq : (y.toList == sx.toList) = false := by
                  rw [beq_eq_false_iff_ne]
                  intro e
                  rw [bs_toList, bs_toList] at e
                  exact hyx (ByteArray.ext (Array.toList_inj.1 e))
                clear hrow
                go_wp2
                go_region
                all_goals
                  clear hq
                  have hrow := HROW.out.next (Below.refl _ wr).drew
                  have hbase : y3.heap.size ≤ (wr.drew.alloc (.cells #[.string y] 9)).heap.size := by have := HBJ.out.size; simp; omega
                  go_wp2_with (at_builtin; refine wpList_append_own_at _ rfl _ _ 50 rfl y3.heap.size 9 i0 (.string ⟨#[]⟩) 1 16 Try.underlying50 hi hz0 hz1 hz2 rfl (by decide) (.slice A18 D.length c18) D.length (D.map Value.string) rfl (World.ownsRow.alloc hrow _) ⟨wr.drew.heap.size, 0, none⟩ 1 1 [.string y] rfl rfl (cell_one_new _ _ _) (fun u hu => by rw [List.mem_singleton.1 hu]; rfl) (by unfold maxLen; omega) (by omega) hbase ?_; intro v' w4 hown' hgrow _ hob; obtain ⟨g', cap9, rfl⟩ := ownsRow_succ hown'; have HN4 : Hid (LnRel y3 sx (keysR R) (.slice (some ⟨g', 0, none⟩) (D.length + 1) cap9) (.int .i64 ((j + 1 : Nat) : Int)) w4) := Lib.hid ⟨j + 1, rfl, by have := HY.out.2; have := HNO.out.1; omega, by rw [fil_snoc_in HY.out.1 hyx, ← List.cons_append, HDD.out]; unfold OwnK; rw [List.map_append, List.length_append]; exact hown', ((HBJ.out.trans ((Below.refl _ wr).drew.mono HBJ.out.size)).alloc HBJ.out.size _).grown hgrow hbase (fun q hq => (HROW.out.lt q hq).1)⟩; clear hown' hgrow hob)
                  clear z1 z2 q1
                  go_roundw
                  case rel =>
                    obtain ⟨j', e1, e2, e3, e4⟩ := HN4.out
                    obtain rfl : j + 1 = j' := by simp at e1; omega
                    exact ⟨j + 1, by go_num, e2, e3, e4⟩
                  case measure => have := HY.out.2; simp [intOf]; omega
            · have q1 : ¬ (j : Int) < ((keysR R).length : Int) := by omega
              have hjo : j = (keysR R).length := by omega
              have hkk : D = keysR (addR R sx vx) := by rw [← hD, HT.out.keys, hjo, List.take_length]
              rw [hkk] at hrow
              have P5 := Lib.hid ((HT.out.one.next hbj).1.keys (by have := (HT.out.one).le; omega))
              have HROW2 := Lib.hid hrow
              clear hrow hkk hjo hD hno hbj
              go_wp2_with fail
              refine P5.out.mono ?_
              rintro e y5 ⟨v5, rfl, o5, _, _, hb5⟩
              have SS := Lib.hid (same_any o5.row (HROW2.out.next hb5).row)
              have HB5 := Lib.hid hb5
              clear o5 hb5
              go_wp2_with fail
              refine SS.out.mono ?_
              rintro e y6 ⟨rfl, hb6⟩
              have hb36 : Below y3.heap.size y3 y6 := (HBJ.out.trans (HB5.out.mono HBJ.out.size)).trans (hb6.mono (Nat.le_trans HBJ.out.size HB5.out.size))
              have hr6 := (HROW2.out.next HB5.out).next hb6
              have HLS : Hid (LaS w room p mv (addR R sx vx) E' u18 y6) := Lib.hid ⟨HT.out.one.more hb36 fun q hq => hq.elim Or.inl fun hq => Or.inr (hr6.lt q hq), hr6.base_le HT.out.one.bel.size, HT.out.map.next hb36, HT.out.mvw, HT.out.val⟩
              clear hb6 hb36 hr6
              go_wp2
              go_roundw
              case rel => exact ⟨k + 1, (addR R sx vx), E', by go_num, HLt.out.1, HE3.out, HLS.out⟩
              case measure => have := HLt.out.1; simp [intOf]; omega
        · have hxe : xk = sx := hxe
          have hlk : lookR R sx = some xv := hlk
          rw [hxe] at hxm
          have P2 := Lib.hid (HO1.out.get (k := sx) HM.out.1)
          rw [hlk] at P2
          have hxx : (xv != xv) = false := by simp
          have hVg : Hid (VE E (getR R sx) ∧ keysR (getR R sx) = sx :: filK (keysR R) sx) := Lib.hid ⟨HS1.out.val.get HM.out.2.2.1 hlk, keys_get hlk⟩
          have hin := Lib.hid (HS1.out.val _ hxm)
          clear hxm hxe hlk
          go_upto_region 27 with (first | (go_at_call 20; refine (HPk.out _).mono ?_; rintro e _ ⟨rfl, rfl⟩) | (go_at_call 23; refine P2.out.mono ?_; rintro e y3 ⟨rfl, o2, s2⟩; have hst := HS1.out.stay (R' := getR R sx) (o2.less fun k h => Or.inl h) (fun k h => s2 k (Or.inl h)); have HT : Hid (LaT w room p mv ga ki sx vx (getR R sx) E u6 (keysR R) y3) := Lib.hid ⟨o2.less fun k h => Or.inl (Or.inl h), hst.1.row, hst.2, HS1.out.mvw, hVg.out.1, (s2 ga (Or.inr rfl)).trans HA1.out, hVg.out.2⟩; have hlk2 := hst.2.look_yes false skeyL Try.underlying59 (keyK HM.out.1) hin.out; simp only [Bool.false_eq_true, if_false] at hlk2; clear hst o2 s2; have d0 := HT.out.box.cell 0; have d1 := HT.out.box.cell 1; have d2 := HT.out.box.cell 2; simp at d0 d1 d2))
          clear hlk2
          have HE3 : Hid (E.length ≤ k + 1) := Lib.hid (by have := HLt.out.2; omega)
          obtain ⟨A', cap', e', _, _, hat'⟩ := row_at HT.out.row
          subst e'
          have HAT := Lib.hid hat'
          have hNO : (keysR R).length = (keysR R).length := rfl
          have hon : (keysR R).length ≤ 1000 := by
            have := HM.out.2.2.2
            have : (keysR R).length = R.length := by simp [keysR]
            omega
          clear hat'
          have HR1 : Hid (LnRel y3 sx (keysR R) (.slice (some ⟨y3.heap.size, 0, none⟩) 1 1) (.int .i64 0) (y3.alloc (.cells #[.string sx] 9))) := Lib.hid ⟨0, rfl, Nat.zero_le _, ownK_one _ _, (Below.refl _ _).alloc (Nat.le_refl _) _⟩
          have HNO := Lib.hid (And.intro hNO hon)
          clear hNO hon
          go_wp2
          clear d0 d1 d2
          go_loopw [18, 19] (fun vn i wz => LnRel y3 sx (keysR R) vn i wz) (fun _ i _ => (keysR R).length - (intOf i).toNat)
          case atStart => exact HR1.out
          case round =>
            clear HR1
            obtain ⟨j, rfl, hj, hrow, hbj⟩ := hrel
            have HBJ := Lib.hid hbj
            obtain ⟨D, hD⟩ : ∃ D, sx :: filK ((keysR R).take j) sx = D := ⟨_, rfl⟩
            rw [hD] at hrow
            have HROW := Lib.hid hrow
            have HDD := Lib.hid hD
            have hno := HNO.out.1
            have hjb : j ≤ 1001 := by have := HNO.out.2; omega
            by_cases hjn : j < (keysR R).length
            · have hjo : j < (keysR R).length := by omega
              obtain ⟨gj, oj, hA', hgj, hxj⟩ := HAT.out j hjo
              obtain ⟨y, hy⟩ : ∃ y, (keysR R)[j]? = some y := ⟨_, List.getElem?_eq_getElem hjo⟩
              rw [(List.getElem_eq_iff hjo).2 hy] at hxj
              have z1 : wr.cell? ⟨gj, oj + j, none⟩ = some (.string y) := (hbj.cell (p := ⟨gj, oj + j, none⟩) hgj).trans hxj
              have q1 : (j : Int) < ((keysR R).length : Int) := by omega
              have z2 := (HT.out.box.below hbj HT.out.box.lt).cell 1
              simp at z2
              have HY := Lib.hid (And.intro hy hjn)
              have hDl : D.length ≤ 1001 := by
                have h1 := fil_len (L := (keysR R)) (j := j) (k := sx)
                have h2 := HNO.out.2
                rw [← hD]
                simp
                omega
              subst hA'
              obtain ⟨A18, c18, e18⟩ := ownK_shape hrow
              subst e18
              clear hD hxj hgj hy hjo hno hbj
              by_cases hyx : y = sx
              · have hq : (y.toList == sx.toList) = true := by rw [hyx]; simp
                clear hrow
                go_wp2
                go_region
                all_goals
                  clear z1 z2 q1 hq
                  go_wp2
                  go_roundw
                  case rel => exact ⟨j + 1, by go_num, by have := HY.out.2; have := HNO.out.1; omega, by rw [fil_snoc_out HY.out.1 hyx, HDD.out]; exact HROW.out.next (Below.refl _ _).drew, HBJ.out.trans ((Below.refl _ _).drew.mono HBJ.out.size)⟩
                  case measure => have := HY.out.2; simp [intOf]; omega
              · have hq : (y.toList == sx.toList) = false := by
                  rw [beq_eq_false_iff_ne]
                  intro e
                  rw [bs_toList, bs_toList] at e
                  exact hyx (ByteArray.ext (Array.toList_inj.1 e))
                clear hrow
                go_wp2
                go_region
                all_goals
                  clear hq
                  have hrow := HROW.out.next (Below.refl _ wr).drew
                  have hbase : y3.heap.size ≤ (wr.drew.alloc (.cells #[.string y] 9)).heap.size := by have := HBJ.out.size; simp; omega
                  go_wp2_with (at_builtin; refine wpList_append_own_at _ rfl _ _ 50 rfl y3.heap.size 9 i0 (.string ⟨#[]⟩) 1 16 Try.underlying50 hi hz0 hz1 hz2 rfl (by decide) (.slice A18 D.length c18) D.length (D.map Value.string) rfl (World.ownsRow.alloc hrow _) ⟨wr.drew.heap.size, 0, none⟩ 1 1 [.string y] rfl rfl (cell_one_new _ _ _) (fun u hu => by rw [List.mem_singleton.1 hu]; rfl) (by unfold maxLen; omega) (by omega) hbase ?_; intro v' w4 hown' hgrow _ hob; obtain ⟨g', cap9, rfl⟩ := ownsRow_succ hown'; have HN4 : Hid (LnRel y3 sx (keysR R) (.slice (some ⟨g', 0, none⟩) (D.length + 1) cap9) (.int .i64 ((j + 1 : Nat) : Int)) w4) := Lib.hid ⟨j + 1, rfl, by have := HY.out.2; have := HNO.out.1; omega, by rw [fil_snoc_in HY.out.1 hyx, ← List.cons_append, HDD.out]; unfold OwnK; rw [List.map_append, List.length_append]; exact hown', ((HBJ.out.trans ((Below.refl _ wr).drew.mono HBJ.out.size)).alloc HBJ.out.size _).grown hgrow hbase (fun q hq => (HROW.out.lt q hq).1)⟩; clear hown' hgrow hob)
                  clear z1 z2 q1
                  go_roundw
                  case rel =>
                    obtain ⟨j', e1, e2, e3, e4⟩ := HN4.out
                    obtain rfl : j + 1 = j' := by simp at e1; omega
                    exact ⟨j + 1, by go_num, e2, e3, e4⟩
                  case measure => have := HY.out.2; simp [intOf]; omega
            · have q1 : ¬ (j : Int) < ((keysR R).length : Int) := by omega
              have hjo : j = (keysR R).length := by omega
              have hkk : D = keysR (getR R sx) := by rw [← hD, HT.out.keys, hjo, List.take_length]
              rw [hkk] at hrow
              have P5 := Lib.hid ((HT.out.one.next hbj).1.keys (by have := (HT.out.one).le; omega))
              have HROW2 := Lib.hid hrow
              clear hrow hkk hjo hD hno hbj
              go_wp2_with fail
              refine P5.out.mono ?_
              rintro e y5 ⟨v5, rfl, o5, _, _, hb5⟩
              have SS := Lib.hid (same_any o5.row (HROW2.out.next hb5).row)
              have HB5 := Lib.hid hb5
              clear o5 hb5
              go_wp2_with fail
              refine SS.out.mono ?_
              rintro e y6 ⟨rfl, hb6⟩
              have hb36 : Below y3.heap.size y3 y6 := (HBJ.out.trans (HB5.out.mono HBJ.out.size)).trans (hb6.mono (Nat.le_trans HBJ.out.size HB5.out.size))
              have hr6 := (HROW2.out.next HB5.out).next hb6
              have HLS : Hid (LaS w room p mv (getR R sx) E u18 y6) := Lib.hid ⟨HT.out.one.more hb36 fun q hq => hq.elim Or.inl fun hq => Or.inr (hr6.lt q hq), hr6.base_le HT.out.one.bel.size, HT.out.map.next hb36, HT.out.mvw, HT.out.val⟩
              clear hb6 hb36 hr6
              go_wp2
              go_roundw
              case rel => exact ⟨k + 1, (getR R sx), E, by go_num, HLt.out.1, HE3.out, HLS.out⟩
              case measure => have := HLt.out.1; simp [intOf]; omega
    · have j1 : ¬ (k : Int) < L.length := by omega
      obtain ⟨A6, c6, e6⟩ := ownK_shape hS.row
      have hkl : (keysR R).length = R.length := by simp [keysR]
      rw [hkl] at e6
      subst e6
      have P1 := Lib.hid hS.one.len
      have hle : (R.length : Int) ≤ (room : Int) := by have := hS.one.le; omega
      have HB := Lib.hid hS.one.bel
      clear hS hkl
      go_wp2_with fail
      refine P1.out.mono ?_
      rintro e _ ⟨rfl, rfl⟩
      go_wp2_with fail
      refine P1.out.mono ?_
      rintro e _ ⟨rfl, rfl⟩
      go_wp2
      go_ret
      exact ⟨rfl, HB.out⟩
set_option maxRecDepth 100000 in
set_option maxHeartbeats 8000000 in
theorem last_out (a : Int) (L : List Ac) (v : Value) (w : World) (hL : ARow w v L) (h : 200 < L.length ∨ (L.length ≤ 200 ∧ a < 1) ∨ (L.length ≤ 200 ∧ 1 ≤ a ∧ 100 < a)) :
    Calls Try.prog 6 #[.int .i64 a, v] w fun e w' => e = .returned (.bool true) ∧ Below w.heap.size w w' := by
  obtain ⟨⟨A, cap, rfl, hlc, hcm, hat⟩, hfit⟩ := hL
  have HL := Lib.hid (lives15 w)
  clear hat hfit
  rcases h with h | ⟨h1, h⟩ | ⟨h1, h2, h⟩
  · have i1 : (200 : Int) < (L.length : Int) := by omega
    go_enter Try.func6, Try.ntmps6
    go_wp2_with fail
    refine HL.out.mono ?_
    rintro e w1 ⟨rfl, hb⟩
    have HB := Lib.hid hb
    clear hb
    go_wp2
    go_ret
    exact ⟨rfl, HB.out⟩
  all_goals
    have i1 : ¬ (200 : Int) < (L.length : Int) := by omega
    go_enter Try.func6, Try.ntmps6
    go_wp2_with fail
    refine HL.out.mono ?_
    rintro e w1 ⟨rfl, hb⟩
    have HB := Lib.hid hb
    clear hb
    go_wp2
    go_ret
    exact ⟨rfl, HB.out⟩
theorem LruLast_walk (a : Int) (v : Value) (_ : (Lit.int .i64 a).wf = true) (w : World) (L : List Ac) (hL : ARow w v L) :
    Calls Try.prog 6 #[.int .i64 a, v] w fun e w' => e = .returned (.bool true) ∧ Below w.heap.size w w' := by
  by_cases h : L.length ≤ 200 ∧ 1 ≤ a ∧ a ≤ 100
  · obtain ⟨h1, h2, h3⟩ := h
    obtain ⟨s, rfl⟩ := Int.eq_ofNat_of_zero_le (show 0 ≤ a by omega)
    exact last_in s L v w hL (by omega) (by omega) h1
  · exact last_out a L v w hL (by omega)
end Go.Proofs.Ytabhapohkohbmaa
