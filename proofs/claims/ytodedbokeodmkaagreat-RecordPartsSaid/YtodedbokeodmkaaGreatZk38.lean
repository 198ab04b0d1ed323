/-
  Octets as they are, an address, numbers, texts are read: the walks. Conditions: as each theorem names them. Texts are read, up to the end: the walk of readTexts. Condition: the octets are no longer than 2^40; none has been read. Texts are read, up to the end: the walk. Condition: the octets are no longer than 2^40; none has been read.
-/
import Derived.Test.YtodedbokeodmkaaGreatZk37
import Derived.Deep.LoopGhost
import Derived.Deep.AppendLies
namespace Go.Proofs.YtodedbokeodmkaaGreat
open Go.RowKit
set_option linter.unusedVariables false
set_option maxRecDepth 100000

section
variable {w : World} {base c g gd : Nat} {F : Nat → Prop} {S R : ByteArray} {k : Nat} {d : MD} {tv : Value}
theorem RS.setR (h : RS w base F c g gd S R k d tv) (x : ByteArray) : RS (w.setCell ⟨gd, 11, none⟩ (.string x)) base F c g gd S R k { d with r := x } tv := (h.store (d' := { d with r := x }) (h.dat.set 11 _) rfl (grown_one w gd 11 _)).1
theorem takR_rest (l : List UInt8) (k : Nat) (h : k ≤ l.length) : takR l k ((l.length : Int) - k) = ⟨l.drop k, 0, l.length⟩ := by
  unfold takR
  rw [if_neg (by omega), if_neg (by omega)]
  have e : ((l.length : Int) - k).toNat = l.length - k := by omega
  rw [e, List.take_of_length_le (by rw [List.length_drop]; exact Nat.le_refl _)]
  congr 1
  omega
theorem below_drN (w : World) (n : Nat) : Below w.heap.size w (w.drewN n) := ⟨rfl, rfl, rfl, Nat.le_refl _, fun _ _ => rfl⟩
set_option maxHeartbeats 1000000 in
theorem raw5 (h : RS w base F c g gd S R k d tv) (hR : R.size ≤ 1099511627776) :
    Calls Tryz.prog 142 #[pp c, pp gd] w (ReadB w base F c g gd S R (rdP (bs S) (bs R) .raw d k)) := by
  obtain ⟨hc0, _⟩ := h.curCells
  have hk := h.hk
  have HL := Lib.hid (rLeft_any h.rd (by unfold maxLen; omega) hk)
  have HO := Lib.hid fun wx (hx : RS wx base F c g gd S R k d tv) => cOct_any hx hR ((R.size : Int) - k)
  rw [show takR (bs R) k ((R.size : Int) - k) = ⟨(bs R).drop k, 0, (bs R).length⟩ by rw [← bs_length, takR_rest (bs R) k (by rw [bs_length]; exact hk)]] at HO
  rw [show rdP (bs S) (bs R) .raw d k = ⟨0, (bs R).length, { d with r := mkb ((bs R).drop k) }⟩ from rfl]
  have HN := Lib.hid fun n => h.next (below_drN w n)
  have HD : Hid (∀ w2 k', RS w2 base F c g gd S R k' d tv → w2.frozen? ⟨gd, 11, none⟩ = false ∧ w2.cell? ⟨gd, 11, none⟩ = (cellsD d tv)[11]?) := Lib.hid fun w2 k' h2 => ⟨h2.dat.free 11, h2.dat.cell 11⟩
  obtain ⟨x, hx⟩ : ∃ x, mkb ((bs R).drop k) = x := ⟨_, rfl⟩
  rw [hx] at HO ⊢
  clear h hx hk
  have hRz : 0 ≤ (R.size : Int) := by omega
  go_enter Tryz.func142, Tryz.ntmps142
  go_wp2_with (first | (go_at_call 144; (with_reducible refine HL.out.mono ?_); rintro e w1 ⟨rfl, nd, rfl⟩) | (go_at_call 143; (with_reducible refine (HO.out _ (HN.out nd).1).mono ?_); rintro e w2 ⟨rfl, h1, h2⟩; have H1 := Lib.hid h1; have H2 := Lib.hid h2; obtain ⟨hf2, hc2⟩ := HD.out _ _ h1; clear h1 h2))
  go_ret
  exact ⟨rfl, F, (bs R).length, _, tv, H1.out.setR _, (HN.out nd).2.trans (H2.out.trans (kf_set H1.out _ _)), fun _ => ⟨rfl, rfl⟩⟩

/-! ### An address -/
theorem RS.setA (h : RS w base F c g gd S R k d tv) (six : Bool) (hi lo : Nat) : RS (((w.setCell ⟨gd, 0, none⟩ (.bool six)).setCell ⟨gd, 1, none⟩ (.int .u64 (hi : Int))).setCell ⟨gd, 2, none⟩ (.int .u64 (lo : Int))) base F c g gd S R k { d with six := six, hi := hi, lo := lo } tv ∧
    Kf base F F w (((w.setCell ⟨gd, 0, none⟩ (.bool six)).setCell ⟨gd, 1, none⟩ (.int .u64 (hi : Int))).setCell ⟨gd, 2, none⟩ (.int .u64 (lo : Int))) :=
  h.store (d' := { d with six := six, hi := hi, lo := lo }) (((h.dat.set 0 _).set 1 _).set 2 _) rfl (grown_next (grown_next (grown_one w gd 0 _) (grown_one _ gd 1 _)) (grown_one _ gd 2 _))
theorem RS.setV (h : RS w base F c g gd S R k d tv) (x0 x1 x2 x3 x4 : Nat) : RS (((((w.setCell ⟨gd, 5, none⟩ (.int .u32 (x0 : Int))).setCell ⟨gd, 6, none⟩ (.int .u32 (x1 : Int))).setCell ⟨gd, 7, none⟩ (.int .u32 (x2 : Int))).setCell ⟨gd, 8, none⟩ (.int .u32 (x3 : Int))).setCell ⟨gd, 9, none⟩ (.int .u32 (x4 : Int))) base F c g gd S R k { d with v0 := x0, v1 := x1, v2 := x2, v3 := x3, v4 := x4 } tv ∧
    Kf base F F w (((((w.setCell ⟨gd, 5, none⟩ (.int .u32 (x0 : Int))).setCell ⟨gd, 6, none⟩ (.int .u32 (x1 : Int))).setCell ⟨gd, 7, none⟩ (.int .u32 (x2 : Int))).setCell ⟨gd, 8, none⟩ (.int .u32 (x3 : Int))).setCell ⟨gd, 9, none⟩ (.int .u32 (x4 : Int))) :=
  h.store (d' := { d with v0 := x0, v1 := x1, v2 := x2, v3 := x3, v4 := x4 }) (((((h.dat.set 5 _).set 6 _).set 7 _).set 8 _).set 9 _) rfl (grown_next (grown_next (grown_next (grown_next (grown_one w gd 5 _) (grown_one _ gd 6 _)) (grown_one _ gd 7 _)) (grown_one _ gd 8 _)) (grown_one _ gd 9 _))
set_option maxHeartbeats 1000000 in
theorem adr5 (six : Bool) (b : Nat) (n : Nat) (hn : (if six then 16 else 4) = n) (h : RS w base F c g gd S R k d tv) (hR : R.size ≤ 1099511627776) (hb : w.cell? ⟨b, 0, none⟩ = some (.int .i64 (n : Int))) (lb : b < w.heap.size) (Fb : ¬ F b) :
    Calls Tryz.prog 175 #[pp c, pp gd, .pointer (some ⟨b, 0, none⟩)] w (ReadB w base F c g gd S R (rdP (bs S) (bs R) (.adr six) d k)) := by
  have hkd : Kf base F F w w.drew := Kf.of_below (below_dr w) h.base_le
  have HS : Hid (∀ wx F', Kf base F F' w wx → wx.cell? ⟨b, 0, none⟩ = some (.int .i64 (n : Int)) ∧ wx.cell? ⟨c, 0, none⟩ = some (pp g)) := Lib.hid fun wx F' hk => ⟨cell_kf hk lb Fb hb, cell_kf hk h.cur.lt h.Fc h.curCells.1⟩
  have HS0 := Lib.hid (HS.out _ _ hkd)
  have HKd := Lib.hid hkd
  have HT := Lib.hid (take_cu h.drew hR (n : Int))
  have HT' : Hid ((takR (bs R) k (n : Int)).e ≠ 0 → (takR (bs R) k (n : Int)).k = k) := Lib.hid (by
    unfold takR
    split
    · simp
    · split
      · simp
      · simp)
  have HV : Hid (rdP (bs S) (bs R) (.adr six) d k = if (takR (bs R) k (n : Int)).e ≠ 0 then ⟨(takR (bs R) k (n : Int)).e, k, d⟩ else ⟨(ofA (takR (bs R) k (n : Int)).s).2, (takR (bs R) k (n : Int)).k, { d with six := (ofA (takR (bs R) k (n : Int)).s).1.1, hi := (ofA (takR (bs R) k (n : Int)).s).1.2.1, lo := (ofA (takR (bs R) k (n : Int)).s).1.2.2 }⟩) := Lib.hid (by
    rw [← hn]
    cases six <;> rfl)
  have hsz : (mkb (takR (bs R) k (n : Int)).s).size ≤ maxLen := by
    unfold mkb
    rw [tosize]
    have := takR_le' (bs R) k (n : Int)
    rw [bs_length] at this
    unfold maxLen
    omega
  have HO := Lib.hid fun wx => Of_any (mkb (takR (bs R) k (n : Int)).s) wx hsz
  rw [show bs (mkb (takR (bs R) k (n : Int)).s) = (takR (bs R) k (n : Int)).s from bs_mk _] at HO
  obtain ⟨q, hq⟩ : ∃ q, takR (bs R) k (n : Int) = q := ⟨_, rfl⟩
  obtain ⟨x, hx⟩ : ∃ x, rdP (bs S) (bs R) (.adr six) d k = x := ⟨_, rfl⟩
  rw [hq] at HT HT' HV HO
  rw [hx] at HV ⊢
  obtain ⟨o, ho⟩ : ∃ o, ofA q.s = o := ⟨_, rfl⟩
  rw [ho] at HV HO
  obtain ⟨⟨o1, o2, o3⟩, o4⟩ := o
  simp only [av] at HO
  have HD : Hid (∀ w2 k', RS w2 base F c g gd S R k' d tv → (w2.frozen? ⟨gd, 0, none⟩ = false ∧ w2.cell? ⟨gd, 0, none⟩ = (cellsD d tv)[0]?) ∧ (w2.frozen? ⟨gd, 1, none⟩ = false ∧ w2.cell? ⟨gd, 1, none⟩ = (cellsD d tv)[1]?) ∧ (w2.frozen? ⟨gd, 2, none⟩ = false ∧ w2.cell? ⟨gd, 2, none⟩ = (cellsD d tv)[2]?)) := Lib.hid fun w2 k' h2 => ⟨⟨h2.dat.free 0, h2.dat.cell 0⟩, ⟨h2.dat.free 1, h2.dat.cell 1⟩, ⟨h2.dat.free 2, h2.dat.cell 2⟩⟩
  clear h hq hx ho hsz hkd hn hb lb Fb
  by_cases h0 : q.e = 0
  · have HV2 := Lib.hid (HV.out.trans (if_neg (fun hn => hn h0)))
    rw [h0] at HT
    clear h0 HV HT'
    go_enter Tryz.func175, Tryz.ntmps175
    go_wp2
    go_region_held3 (fun w' => w'.cell? ⟨b, 0, none⟩ = some (.int .i64 (n : Int)) ∧ w'.cell? ⟨c, 0, none⟩ = some (pp g)) (first | with_reducible exact HS0.out | exact HS.out _ _ (HKd.out.trans H2.out) | go_keep) (first | (go_at_call 159; (with_reducible refine HT.out.mono ?_); rintro e w2 ⟨rfl, h1, h2⟩; have H1 := Lib.hid h1; have H2 := Lib.hid h2; clear h1 h2) | fail)
    go_wp2_with (go_at_call 176; (with_reducible refine (HO.out _).mono ?_); rintro e w3 ⟨rfl, hb⟩; have h3 := H1.out.next hb; obtain ⟨⟨z0, y0⟩, ⟨z1, y1⟩, ⟨z2, y2⟩⟩ := HD.out _ _ h3.1; have H3 := Lib.hid h3; clear h3 hb)
    go_ret
    obtain ⟨p1, p2⟩ := H3.out.1.setA o1 o2 o3
    exact ⟨by rw [HV2.out]; rfl, F, _, _, tv, p1, HKd.out.trans (H2.out.trans (H3.out.2.trans p2)), fun _ => by rw [HV2.out]; exact ⟨rfl, rfl⟩⟩
  · have HV2 := Lib.hid (HV.out.trans (if_pos h0))
    have hkk := HT'.out h0
    rw [hkk] at HT
    have hne : ((q.e : Int) != 0) = true := by rw [bne_iff_ne]; omega
    clear h0 HV HT' HO hkk
    go_enter Tryz.func175, Tryz.ntmps175
    go_wp2
    go_region_held3 (fun w' => w'.cell? ⟨b, 0, none⟩ = some (.int .i64 (n : Int)) ∧ w'.cell? ⟨c, 0, none⟩ = some (pp g)) (first | with_reducible exact HS0.out | exact HS.out _ _ (HKd.out.trans H2.out) | go_keep) (first | (go_at_call 159; (with_reducible refine HT.out.mono ?_); rintro e w2 ⟨rfl, h1, h2⟩; have H1 := Lib.hid h1; have H2 := Lib.hid h2; clear h1 h2) | fail)
    go_wp2
    go_ret
    exact ⟨by rw [HV2.out]; rfl, F, k, d, tv, H1.out, HKd.out.trans H2.out, fun _ => by rw [HV2.out]; exact ⟨rfl, rfl⟩⟩

/-! ### Numbers -/
set_option maxHeartbeats 1000000 in
theorem nbr5 {a b c' d' e : Int} (hw : Wd5 a b c' d' e) (bx : Nat) (h : RS w base F c g gd S R k d tv) (hR : R.size ≤ 1099511627776) (hb : WB w bx a b c' d' e) :
    Calls Tryz.prog 193 #[pp c, pp gd, .pointer (some ⟨bx, 0, none⟩)] w (ReadB w base F c g gd S R (rdP (bs S) (bs R) (numP a b c' d' e) d k)) := by
  have c0 := hb.cell 0
  have c1 := hb.cell 1
  have c2 := hb.cell 2
  have c3 := hb.cell 3
  have c4 := hb.cell 4
  obtain ⟨wa, wb, wc, wd, we⟩ := hw
  have HC := Lib.hid (wRead_any a b c' d' e h hR wa wb wc wd we)
  have HD : Hid (∀ w2 k', RS w2 base F c g gd S R k' d tv → (w2.frozen? ⟨gd, 5, none⟩ = false ∧ w2.cell? ⟨gd, 5, none⟩ = (cellsD d tv)[5]?) ∧ (w2.frozen? ⟨gd, 6, none⟩ = false ∧ w2.cell? ⟨gd, 6, none⟩ = (cellsD d tv)[6]?) ∧ (w2.frozen? ⟨gd, 7, none⟩ = false ∧ w2.cell? ⟨gd, 7, none⟩ = (cellsD d tv)[7]?) ∧ (w2.frozen? ⟨gd, 8, none⟩ = false ∧ w2.cell? ⟨gd, 8, none⟩ = (cellsD d tv)[8]?) ∧ (w2.frozen? ⟨gd, 9, none⟩ = false ∧ w2.cell? ⟨gd, 9, none⟩ = (cellsD d tv)[9]?)) := Lib.hid fun w2 k' h2 => ⟨⟨h2.dat.free 5, h2.dat.cell 5⟩, ⟨h2.dat.free 6, h2.dat.cell 6⟩, ⟨h2.dat.free 7, h2.dat.cell 7⟩, ⟨h2.dat.free 8, h2.dat.cell 8⟩, ⟨h2.dat.free 9, h2.dat.cell 9⟩⟩
  have HV : Hid (rdP (bs S) (bs R) (numP a b c' d' e) d k = ⟨(rdNums (bs R) (wsL a b c' d' e) k).e, (rdNums (bs R) (wsL a b c' d' e) k).k, { d with v0 := (rdNums (bs R) (wsL a b c' d' e) k).v.getD 0 0, v1 := (rdNums (bs R) (wsL a b c' d' e) k).v.getD 1 0, v2 := (rdNums (bs R) (wsL a b c' d' e) k).v.getD 2 0, v3 := (rdNums (bs R) (wsL a b c' d' e) k).v.getD 3 0, v4 := (rdNums (bs R) (wsL a b c' d' e) k).v.getD 4 0 }⟩) := Lib.hid rfl
  obtain ⟨q, hq⟩ : ∃ q, rdNums (bs R) (wsL a b c' d' e) k = q := ⟨_, rfl⟩
  obtain ⟨x, hx⟩ : ∃ x, rdP (bs S) (bs R) (numP a b c' d' e) d k = x := ⟨_, rfl⟩
  rw [hx] at HV ⊢
  rw [hq] at HV HC
  clear h hq hx hb wa wb wc wd we
  go_enter Tryz.func193, Tryz.ntmps193
  go_wp2_with (go_at_call 194; (with_reducible refine HC.out.mono ?_); rintro e w2 ⟨x0, x1, x2, x3, x4, k', rfl, h1, h2, h3⟩; have H1 := Lib.hid h1; have H2 := Lib.hid h2; have H3 := Lib.hid h3; obtain ⟨⟨z0, y0⟩, ⟨z1, y1⟩, ⟨z2, y2⟩, ⟨z3, y3⟩, ⟨z4, y4⟩⟩ := HD.out _ _ h1; clear h1 h2 h3)
  go_ret
  obtain ⟨p1, p2⟩ := H1.out.setV x0 x1 x2 x3 x4
  refine ⟨by rw [HV.out]; rfl, F, k', _, tv, p1, H2.out.trans p2, fun h0 => ?_⟩
  rw [HV.out] at h0 ⊢
  obtain ⟨hk, hv⟩ := H3.out h0
  rw [← hv]
  exact ⟨hk, rfl⟩
end
end Go.Proofs.YtodedbokeodmkaaGreat
namespace Go.Proofs.YtodedbokeodmkaaGreat
open Go.RowKit
set_option linter.unusedVariables false
set_option maxRecDepth 100000

section
variable {w : World} {base c g gd : Nat} {F : Nat → Prop} {S R : ByteArray} {k : Nat} {d : MD} {tv : Value}
abbrev slV (g1 n cap : Nat) : Value := .slice (some ⟨g1, 0, none⟩) n cap
theorem RS.append (h : RS w base F c g gd S R k d tv) {x : ByteArray} {g1 cap : Nat} {w1 : World} (hown : w1.ownsRow base 9 1 (slV g1 (d.L.length + 1) cap) (d.L.length + 1) (d.L.map Value.string ++ [.string x])) (hg : w.grownBy w1 tv.ownBlock)
    (hob : tv.ownBlock = some g1 ∨ g1 = w.heap.size) (hlt : g1 < w1.heap.size) :
    RS (w1.setCell ⟨gd, 10, none⟩ (slV g1 (d.L.length + 1) cap)) base (fun j => F j ∨ j = g1) c g gd S R k { d with L := d.L ++ [x] } (slV g1 (d.L.length + 1) cap) ∧ Kf base F (fun j => F j ∨ j = g1) w (w1.setCell ⟨gd, 10, none⟩ (slV g1 (d.L.length + 1) cap)) := by
  have hsz := hg.size
  have hz : (w1.setCell ⟨gd, 10, none⟩ (slV g1 (d.L.length + 1) cap)).heap.size = w1.heap.size := by simp [World.setCell]
  have e1 : Lies w1 c 215 _ := h.cur.grown hg (h.row_ne h.cur (by decide))
  have e2 : Lies w1 g 222 _ := Lies.grown h.rd hg (h.row_ne h.rd (by decide))
  have e3 : Lies w1 gd 30 _ := h.dat.grown hg (h.row_ne h.dat (by decide))
  have hc : c ≠ gd := Lies.ne h.cur h.dat (by decide)
  have hgd : g ≠ gd := Lies.ne h.rd h.dat (by decide)
  have hb1 : base ≤ g1 := by
    rcases hob with e | e
    · exact (h.Fl g1 (h.Fo g1 e)).1
    · rw [e]; exact h.base_le
  have hcell : ∃ cs, w1.heap[g1]? = some (.cells cs 9 (0, 0)) := by
    rcases hown.2 with ⟨e, _⟩ | ⟨b, cap', cur, e, h2, h3, h4⟩
    · cases e
    · injection e with e _ _
      injection e with e
      injection e with e
      subst e
      exact ⟨cur, h3⟩
  obtain ⟨cs1, hcs1⟩ := hcell
  have hng : g1 ≠ gd := fun e => by
    subst e
    exact Lies.ne e3 hcs1 (by decide) rfl
  have hnc : g1 ≠ c := fun e => by
    subst e
    exact Lies.ne e1 hcs1 (by decide) rfl
  have ho : ∀ x, x ≠ gd → (w1.setCell ⟨gd, 10, none⟩ (slV g1 (d.L.length + 1) cap)).heap[x]? = w1.heap[x]? := fun x hx => heap_setCell_other w1 ⟨gd, 10, none⟩ x _ hx
  refine ⟨⟨(ho c hc).trans e1, (ho g hgd).trans e2, h.hk, e3.set 10 _, ?_, h.bg, h.bd, .inl h.Fg, .inl h.Fd, fun j hj => .inr ?_, fun hF => ?_, fun j hj => ?_⟩, ⟨?_, fun j hj hF => ?_, fun j hj => ?_⟩⟩
  · have hk := World.ownsRow.kept hown (grown_one w1 gd 10 (slV g1 (d.L.length + 1) cap)) (.inr (by simp [Value.ownBlock]; exact hng))
    show World.ownsRow _ base 9 1 _ (d.L ++ [x]).length ((d.L ++ [x]).map Value.string)
    rw [List.length_append, List.map_append]
    exact hk
  · have : g1 = j := by simpa [Value.ownBlock] using hj
    exact this.symm
  · rcases hF with hF | hF
    · exact h.Fc hF
    · exact hnc hF.symm
  · rw [hz]
    rcases hj with hj | rfl
    · exact ⟨(h.Fl j hj).1, Nat.lt_of_lt_of_le (h.Fl j hj).2 hsz⟩
    · exact ⟨hb1, hlt⟩
  · exact ((Below.refl base w).grown hg h.base_le (fun j hj => (h.Fl j (h.Fo j hj)).1)).setCell h.bd _
  · exact (ho j (fun e => hF (e ▸ h.Fd))).trans (hg.block j hj (fun e => hF (h.Fo j e.symm)))
  · rcases hj with hj | rfl
    · exact .inl hj
    · rcases hob with e | e
      · exact .inl (h.Fo _ e)
      · exact .inr (by rw [e]; exact Nat.le_refl _)
theorem rdText_ok {R : List UInt8} {k : Nat} (hk : k ≤ R.length) (h : (rdText R k).e = 0) : k + 1 ≤ (rdText R k).k ∧ (rdText R k).k ≤ R.length := by
  unfold rdText at h ⊢
  split at h
  · rename_i hn
    exact absurd h hn
  · rename_i hn
    rw [if_neg hn]
    have hn : (numR R k 1).e = 0 := Decidable.not_not.1 hn
    have h1 : (numR R k 1).k = k + 1 := by
      unfold numR takR at hn ⊢
      simp only [show isW 1 = true from by decide, Bool.true_eq_false, if_false] at hn ⊢
      by_cases hl : (R.length : Int) - k < 1
      · simp [hl] at hn
      · simp [hl]
    have h2 := takR_le R (numR R k 1).k (num (numR R k 1).s : Nat) (numR_le R k 1 hk)
    refine ⟨?_, h2⟩
    unfold takR
    rw [h1]
    split
    · exact Nat.le_refl _
    · split
      · exact Nat.le_refl _
      · show k + 1 ≤ k + 1 + _
        omega
/-- Where the reading of texts stands. -/
def TxRel (w : World) (base : Nat) (F : Nat → Prop) (c g gd : Nat) (S R : ByteArray) (d : MD) (Q : RR) (n : Nat) (wr : World) : Prop :=
  ∃ (F' : Nat → Prop) (k' : Nat) (L : List ByteArray) (tv' : Value), RS wr base F' c g gd S R k' { d with L := L } tv' ∧ Kf base F F' w wr ∧ rdTexts (bs R) n L k' = Q ∧ R.size + 1 ≤ n + k' ∧ L.length ≤ k'
theorem rdTexts_end {R : List UInt8} {n k : Nat} {L : List ByteArray} (hL : L ≠ []) (hk : ¬ k < R.length) : rdTexts R (n + 1) L k = ⟨0, k, { md0 with L := L }⟩ := by
  unfold rdTexts
  rw [if_neg (fun h => h.elim hL hk)]
theorem rdTexts_bad {R : List UInt8} {n k : Nat} {L : List ByteArray} (h : L = [] ∨ k < R.length) (he : (rdText R k).e ≠ 0) : rdTexts R (n + 1) L k = ⟨(rdText R k).e, (rdText R k).k, { md0 with L := L }⟩ := by
  conv => lhs; unfold rdTexts
  rw [if_pos h, if_pos he]
theorem rdTexts_ok {R : List UInt8} {n k : Nat} {L : List ByteArray} (h : L = [] ∨ k < R.length) (he : (rdText R k).e = 0) : rdTexts R (n + 1) L k = rdTexts R n (L ++ [mkb (rdText R k).s]) (rdText R k).k := by
  conv => lhs; unfold rdTexts
  rw [if_pos h, if_neg (fun hn => hn he)]
end
end Go.Proofs.YtodedbokeodmkaaGreat
namespace Go.Proofs.YtodedbokeodmkaaGreat
open Go.RowKit
set_option linter.unusedVariables false
set_option maxRecDepth 100000

theorem infoS9 : (Tryz.prog.info? 9).map (fun i => (i.zero, i.size, i.bytes)) = some (some (.string ⟨#[]⟩), 1, 16) := by kernel_rfl
section
variable {w : World} {base c g gd : Nat} {F : Nat → Prop} {S R : ByteArray} {k : Nat} {d : MD} {tv : Value}
set_option maxHeartbeats 4000000 in
theorem txt5 (h : RS w base F c g gd S R k d tv) (hR : R.size ≤ 1099511627776) (hL0 : d.L = []) :
    Calls Tryz.prog 199 #[pp c, pp gd] w (ReadB w base F c g gd S R (rdP (bs S) (bs R) .txt d k)) := by
  rw [show rdP (bs S) (bs R) .txt d k = ⟨(rdTexts (bs R) ((bs R).length + 1 - k) d.L k).e, (rdTexts (bs R) ((bs R).length + 1 - k) d.L k).k, { d with L := (rdTexts (bs R) ((bs R).length + 1 - k) d.L k).d.L }⟩ from rfl, bs_length]
  obtain ⟨Q, hQ⟩ : ∃ Q, rdTexts (bs R) (R.size + 1 - k) d.L k = Q := ⟨_, rfl⟩
  rw [hQ]
  have hk := h.hk
  have H0 : Hid (TxRel w base F c g gd S R d Q (R.size + 1 - k) w) := Lib.hid ⟨F, k, d.L, tv, h, Kf.refl _ _ _, hQ, by omega, by rw [hL0]; exact Nat.zero_le _⟩
  obtain ⟨n0, hn0⟩ : ∃ n0, R.size + 1 - k = n0 := ⟨_, rfl⟩
  rw [hn0] at H0
  have hbase := h.base_le
  clear h hQ hk hn0 hL0
  obtain ⟨i0, hi, hz0, hz1, hz2⟩ := info_parts infoS9
  go_enter Tryz.func199, Tryz.ntmps199
  go_wp2
  go_loopg [] n0 (fun n wr => TxRel w base F c g gd S R d Q n wr)
  case atStart => exact H0.out
  case round =>
    clear H0
    obtain ⟨F', k', L, tv', hs, hkf, hq, hfu, hLk⟩ := hrel
    have hk' := hs.hk
    rcases gk with _ | n
    · omega
    have hcc := hs.curCells.1
    have hc10 : wr.cell? ⟨gd, 10, none⟩ = some tv' := hs.dat.cell 10
    obtain ⟨A, cap, rfl⟩ : ∃ A cap, tv' = .slice A L.length cap := (let ⟨A, cap, e, _⟩ := (SRow.of_own hs.own).shape; ⟨A, cap, e⟩)
    by_cases hgo : L = [] ∨ k' < R.size
    · have hgo' : L = [] ∨ k' < (bs R).length := by rw [bs_length]; exact hgo
      have HT := Lib.hid fun wx (hx : RS wx base F' c g gd S R k' { d with L := L } (.slice A L.length cap)) => cText_any hx hR
      have HN := Lib.hid fun m => hs.next (below_drN wr m)
      by_cases he : (rdText (bs R) k').e = 0
      · have hok := rdText_ok (by rw [bs_length]; exact hk') he
        rw [bs_length] at hok
        rw [rdTexts_ok hgo' he] at hq
        rw [he] at HT
        have HQ := Lib.hid hq
        have HKf := Lib.hid hkf
        have HOK := Lib.hid hok
        obtain ⟨t, ht⟩ : ∃ t, rdText (bs R) k' = t := ⟨_, rfl⟩
        rw [ht] at HT HQ HOK
        obtain ⟨x, hx⟩ : ∃ x, mkb t.s = x := ⟨_, rfl⟩
        rw [hx] at HT HQ
        have HAp := Lib.hid fun w2 (hx : RS w2 base F' c g gd S R t.k { d with L := L } (.slice A L.length cap)) g1 cap1 w3 h1 h2 h3 h4 => hx.append (x := x) (g1 := g1) (cap := cap1) (w1 := w3) h1 h2 h3 h4
        have HLn : Hid (L.length + 1 ≤ 1099511627776) := Lib.hid (by have := hok.1; have := hok.2; omega)
        have HStep : Hid (∀ w5 F5 tv5, RS w5 base F5 c g gd S R t.k { d with L := L ++ [x] } tv5 → Kf base F' F5 wr w5 → TxRel w base F c g gd S R d Q n w5) := Lib.hid fun w5 F5 tv5 h5 k5 => ⟨F5, t.k, L ++ [x], tv5, h5, hkf.trans k5, HQ.out, by have := HOK.out.1; omega, by rw [List.length_append]; have := HOK.out.1; simp; omega⟩
        have hnews : ∀ (w2 : World) (j : Nat) (u : Value), ([Value.string x] : List Value)[j]? = some u → (w2.alloc (.cells #[.string x] 9)).cell? (Addr.add ⟨w2.heap.size, 0, none⟩ j) = some u := fun w2 => cell_one_new _ _ _
        have h1c : ∀ u ∈ ([Value.string x] : List Value), u.oneCell' = true := fun u hu => by rw [List.mem_singleton.1 hu]; rfl
        have h63 : L.length + 1 ≤ maxLen := by have := HLn.out; unfold maxLen; omega
        have hby : (L.length + 1) * 16 ≤ 140737488355328 := by have := HLn.out; omega
        have HBs : Hid (∀ w2 k2 d2 tv2, RS w2 base F' c g gd S R k2 d2 tv2 → base ≤ (w2.alloc (.cells #[.string x] 9)).heap.size) := Lib.hid fun w2 k2 d2 tv2 h2 => by have := h2.base_le; simp; omega
        have HAl : Hid (∀ w2 : World, Below w2.heap.size w2 (w2.alloc (.cells #[.string x] 9))) := Lib.hid fun w2 => (Below.refl _ _).alloc (Nat.le_refl _) _
        by_cases hL : L = []
        · have hd : ((L.length : Int) == 0) = true := by rw [hL]; rfl
          have HS0 := Lib.hid (HT.out wr hs)
          clear hgo hgo' he hok hq ht hx hs hfu hLk hkf hL HT hk'
          go_wp2_with (first | (go_at_call 213; (with_reducible refine HS0.out.mono ?_); rintro e w2 ⟨rfl, h1, h2⟩; have g10 : w2.cell? ⟨gd, 10, none⟩ = some (.slice A L.length cap) := h1.dat.cell 10; have ha := h1.next (HAl.out w2); have HO1 := Lib.hid ha.1.own; have HA1 := Lib.hid ha.1; have HK2 := Lib.hid (h2.trans ha.2); have hbs := HBs.out _ _ _ _ h1; clear h1 h2 ha) | (at_builtin; refine wpList_append_lies _ rfl (.tmp 33) (.tmp 35) 28 rfl base 9 i0 (.string ⟨#[]⟩) 1 16 Tryz.underlying28 hi hz0 hz1 hz2 rfl (by decide) (.slice A L.length cap) L.length (L.map Value.string) rfl HO1.out ⟨w2.heap.size, 0, none⟩ 1 1 [.string x] rfl rfl (hnews w2) h1c (by decide) h63 hby hbs (w2.heap.size + 1) (by simp) ?_; intro g1 cap1 w3 hown3 hg3 hob3 hlt3; have hl3 : Lies w3 gd 30 _ := HA1.out.dat.grown hg3 (HA1.out.row_ne HA1.out.dat (by decide)); have z10 := hl3.cell 10; have y10 := hl3.free 10; have HX := Lib.hid (HAp.out _ HA1.out g1 cap1 w3 hown3 hg3 (by simpa using hob3) hlt3); clear hown3 hg3 hob3 hl3))
          go_roundg n
          case rel => exact HStep.out _ _ _ HX.out.1 (HK2.out.trans HX.out.2)
          case measure => omega
        · have hlk : k' < R.size := hgo.resolve_left hL
          have hd : ((L.length : Int) == 0) = false := by rw [beq_eq_false_iff_ne]; intro e; exact hL (List.eq_nil_of_length_eq_zero (by omega))
          have HLf := Lib.hid (rLeft_any hs.rd (by unfold maxLen; omega) hk')
          have hgt : decide ((0 : Int) < (R.size : Int) - (k' : Int)) = true := by rw [decide_eq_true_iff]; omega
          have hgt' : (0 : Int) < (R.size : Int) - (k' : Int) := by omega
          have HS0 := Lib.hid fun m => HT.out _ (HN.out m).1
          have HKN := Lib.hid fun m => (HN.out m).2
          clear hgo hgo' he hok hq ht hx hs hfu hLk hkf hL HT hk' HN
          go_wp2_with (first | (go_at_call 144; (with_reducible refine HLf.out.mono ?_); rintro e w1 ⟨rfl, nd, rfl⟩) | (go_at_call 213; (with_reducible refine (HS0.out _).mono ?_); rintro e w2 ⟨rfl, h1, h2⟩; have g10 : w2.cell? ⟨gd, 10, none⟩ = some (.slice A L.length cap) := h1.dat.cell 10; have ha := h1.next (HAl.out w2); have HO1 := Lib.hid ha.1.own; have HA1 := Lib.hid ha.1; have HK2 := Lib.hid (h2.trans ha.2); have hbs := HBs.out _ _ _ _ h1; clear h1 h2 ha) | (at_builtin; refine wpList_append_lies _ rfl (.tmp 33) (.tmp 35) 28 rfl base 9 i0 (.string ⟨#[]⟩) 1 16 Tryz.underlying28 hi hz0 hz1 hz2 rfl (by decide) (.slice A L.length cap) L.length (L.map Value.string) rfl HO1.out ⟨w2.heap.size, 0, none⟩ 1 1 [.string x] rfl rfl (hnews w2) h1c (by decide) h63 hby hbs (w2.heap.size + 1) (by simp) ?_; intro g1 cap1 w3 hown3 hg3 hob3 hlt3; have hl3 : Lies w3 gd 30 _ := HA1.out.dat.grown hg3 (HA1.out.row_ne HA1.out.dat (by decide)); have z10 := hl3.cell 10; have y10 := hl3.free 10; have HX := Lib.hid (HAp.out _ HA1.out g1 cap1 w3 hown3 hg3 (by simpa using hob3) hlt3); clear hown3 hg3 hob3 hl3))
          go_roundg n
          case rel => exact HStep.out _ _ _ HX.out.1 ((HKN.out nd).trans (HK2.out.trans HX.out.2))
          case measure => omega
      · rw [rdTexts_bad hgo' he] at hq
        have HE : Hid (Q.e = (rdText (bs R) k').e) := Lib.hid (by rw [← hq])
        have hne : (((rdText (bs R) k').e : Int) != 0) = true := by rw [bne_iff_ne]; omega
        have HE0 : Hid (Q.e ≠ 0) := Lib.hid (by rw [HE.out]; exact he)
        obtain ⟨t, ht⟩ : ∃ t, rdText (bs R) k' = t := ⟨_, rfl⟩
        rw [ht] at HT HE hne
        have HKf := Lib.hid hkf
        by_cases hL : L = []
        · have hd : ((L.length : Int) == 0) = true := by rw [hL]; rfl
          have HS0 := Lib.hid (HT.out wr hs)
          clear hgo hgo' he hq ht hs hfu hLk hkf hL HT hk'
          go_wp2_with (go_at_call 213; (with_reducible refine HS0.out.mono ?_); rintro e w2 ⟨rfl, h1, h2⟩; have H1 := Lib.hid h1; have H2 := Lib.hid h2; clear h1 h2)
          go_ret
          exact ⟨by rw [HE.out]; rfl, F', _, _, _, H1.out, HKf.out.trans H2.out, fun h0 => absurd h0 HE0.out⟩
        · have hlk : k' < R.size := hgo.resolve_left hL
          have hd : ((L.length : Int) == 0) = false := by rw [beq_eq_false_iff_ne]; intro e; exact hL (List.eq_nil_of_length_eq_zero (by omega))
          have HLf := Lib.hid (rLeft_any hs.rd (by unfold maxLen; omega) hk')
          have hgt : decide ((0 : Int) < (R.size : Int) - (k' : Int)) = true := by rw [decide_eq_true_iff]; omega
          have hgt' : (0 : Int) < (R.size : Int) - (k' : Int) := by omega
          have HS0 := Lib.hid fun m => HT.out _ (HN.out m).1
          have HKN := Lib.hid fun m => (HN.out m).2
          clear hgo hgo' he hq ht hs hfu hLk hkf hL HT hk' HN
          go_wp2_with (first | (go_at_call 144; (with_reducible refine HLf.out.mono ?_); rintro e w1 ⟨rfl, nd, rfl⟩) | (go_at_call 213; (with_reducible refine (HS0.out _).mono ?_); rintro e w2 ⟨rfl, h1, h2⟩; have H1 := Lib.hid h1; have H2 := Lib.hid h2; clear h1 h2))
          go_ret
          exact ⟨by rw [HE.out]; rfl, F', _, _, _, H1.out, HKf.out.trans ((HKN.out nd).trans H2.out), fun h0 => absurd h0 HE0.out⟩
    · have hL : L ≠ [] := fun h => hgo (.inl h)
      have hkR : ¬ k' < R.size := fun h => hgo (.inr h)
      have hd : ((L.length : Int) == 0) = false := by rw [beq_eq_false_iff_ne]; intro e; exact hL (List.eq_nil_of_length_eq_zero (by omega))
      rw [rdTexts_end hL (by rw [bs_length]; exact hkR)] at hq
      have HQ := Lib.hid hq
      have HLf := Lib.hid (rLeft_any hs.rd (by unfold maxLen; omega) hk')
      have hgt : decide ((0 : Int) < (R.size : Int) - (k' : Int)) = false := by rw [decide_eq_false_iff_not]; omega
      have hgt' : ¬ (0 : Int) < (R.size : Int) - (k' : Int) := by omega
      have HN := Lib.hid fun m => hs.next (below_drN wr m)
      have HKf := Lib.hid hkf
      clear hgo hL hkR hq hs hfu hLk hkf hk'
      go_wp2_with (go_at_call 144; (with_reducible refine HLf.out.mono ?_); rintro e w1 ⟨rfl, nd, rfl⟩)
      go_ret
      rw [← HQ.out]
      exact ⟨rfl, F', k', _, _, (HN.out nd).1, HKf.out.trans (HN.out nd).2, fun _ => ⟨rfl, rfl⟩⟩
end
end Go.Proofs.YtodedbokeodmkaaGreat
