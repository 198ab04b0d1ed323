/-
  Kinds of one part: what makes them. Conditions: as each theorem names them. A row of kinds: each is done something to, up to the first error. Conditions: as each theorem names them. A kind of several parts: what its functions answer. Conditions: as each theorem names them. A kind of several parts is looked at, and counted: the walks. Conditions: as each theorem names them. A kind of several parts: what makes it. Conditions: the parts are kinds of one part each, none of texts.
-/
import Derived.Test.YtodedbokeodmkaaGreatZk38
import Derived.Test.YtodedbokeodmkaaGreatZk34
import Derived.Laws.EntriesVeiled
namespace Go.Proofs.YtodedbokeodmkaaGreat
open Go.RowKit
set_option linter.unusedVariables false
set_option maxRecDepth 100000

theorem FunV.of {fid : FuncId} {caps args args' : Array Value} {w : World} {R : Ending → World → Prop} (hg : Goes fid) (e : args ++ caps = args') (h : Calls Tryz.prog fid args' w R) : FunV (.func (.func fid) #[] caps) args w R := ⟨fid, caps, rfl, hg, by rw [e]; exact h⟩
theorem ge1 : Goes 138 ∧ Goes 139 ∧ Goes 140 ∧ Goes 141 ∧ Goes 142 := ⟨fun _ _ => by kernel_rfl, fun _ _ => by kernel_rfl, fun _ _ => by kernel_rfl, fun _ _ => by kernel_rfl, fun _ _ => by kernel_rfl⟩
theorem ge2 : Goes 195 ∧ Goes 196 ∧ Goes 197 ∧ Goes 198 ∧ Goes 199 := ⟨fun _ _ => by kernel_rfl, fun _ _ => by kernel_rfl, fun _ _ => by kernel_rfl, fun _ _ => by kernel_rfl, fun _ _ => by kernel_rfl⟩
theorem ge3 : Goes 169 ∧ Goes 170 ∧ Goes 172 ∧ Goes 173 ∧ Goes 175 := ⟨fun _ _ => by kernel_rfl, fun _ _ => by kernel_rfl, fun _ _ => by kernel_rfl, fun _ _ => by kernel_rfl, fun _ _ => by kernel_rfl⟩
theorem ge4 : Goes 163 ∧ Goes 164 ∧ Goes 165 ∧ Goes 166 ∧ Goes 167 := ⟨fun _ _ => by kernel_rfl, fun _ _ => by kernel_rfl, fun _ _ => by kernel_rfl, fun _ _ => by kernel_rfl, fun _ _ => by kernel_rfl⟩
theorem ge5 : Goes 186 ∧ Goes 187 ∧ Goes 189 ∧ Goes 191 ∧ Goes 193 := ⟨fun _ _ => by kernel_rfl, fun _ _ => by kernel_rfl, fun _ _ => by kernel_rfl, fun _ _ => by kernel_rfl, fun _ _ => by kernel_rfl⟩
theorem szR {S R : ByteArray} (hS : S.size ≤ 1099511627776) (hR : R.size ≤ S.size) : R.size ≤ 1099511627776 := Nat.le_trans hR hS
/-- What a maker of a kind hands back. -/
def Makes (w : World) (K : List Pt) (e : Ending) (w' : World) : Prop := ∃ v, e = .returned v ∧ IK w.heap.size w' v K ∧ Below w.heap.size w w'
theorem raw_any (w : World) : Calls Tryz.prog 112 #[] w (Makes w [.raw]) := by
  have HB : Hid (∀ o, Below w.heap.size w (w.alloc o)) := Lib.hid fun o => (Below.refl _ _).alloc (Nat.le_refl _) o
  go_enter Tryz.func112, Tryz.ntmps112
  go_wp2
  refine bodyPost_ret (v := .agg #[.func (.func 138) #[] #[], .func (.func 139) #[] #[], .func (.func 140) #[] #[], .func (.func 141) #[] #[], .func (.func 142) #[] #[]]) (by simp [results, Tryz.results112, go_sem]) rfl ?_
  refine ⟨_, rfl, ⟨fun _ => False, fun _ h => h.elim, _, _, _, _, _, rfl, ⟨⟨_, _, rfl, ge1.1⟩, ⟨_, _, rfl, ge1.2.1⟩, ⟨_, _, rfl, ge1.2.2.1⟩, ⟨_, _, rfl, ge1.2.2.2.1⟩, ⟨_, _, rfl, ge1.2.2.2.2⟩⟩, fun w1 hz hb => ⟨?_, ?_, ?_, ?_, ?_⟩⟩, HB.out _⟩
  · intro g d tv _ h
    exact FunV.of ge1.1 rfl (raw1 h)
  · intro d tv h
    exact FunV.of ge1.2.1 rfl (raw2 d tv w1)
  · intro d tv h _
    exact FunV.of ge1.2.2.1 rfl (raw3 d tv w1 h.r)
  · intro base F g M s d tv _ hp hf _ _ hsz
    exact FunV.of ge1.2.2.2.1 rfl (raw4 d tv w1 hp hsz)
  · intro base F c g gd S R k d tv _ hS hR _ h
    rw [rd_one]
    exact FunV.of ge1.2.2.2.2 rfl (raw5 h (szR hS hR))
theorem texts_any (w : World) : Calls Tryz.prog 136 #[] w (Makes w [.txt]) := by
  have HB : Hid (∀ o, Below w.heap.size w (w.alloc o)) := Lib.hid fun o => (Below.refl _ _).alloc (Nat.le_refl _) o
  go_enter Tryz.func136, Tryz.ntmps136
  go_wp2
  refine bodyPost_ret (v := .agg #[.func (.func 195) #[] #[], .func (.func 196) #[] #[], .func (.func 197) #[] #[], .func (.func 198) #[] #[], .func (.func 199) #[] #[]]) (by simp [results, Tryz.results136, go_sem]) rfl ?_
  refine ⟨_, rfl, ⟨fun _ => False, fun _ h => h.elim, _, _, _, _, _, rfl, ⟨⟨_, _, rfl, ge2.1⟩, ⟨_, _, rfl, ge2.2.1⟩, ⟨_, _, rfl, ge2.2.2.1⟩, ⟨_, _, rfl, ge2.2.2.2.1⟩, ⟨_, _, rfl, ge2.2.2.2.2⟩⟩, fun w1 hz hb => ⟨?_, ?_, ?_, ?_, ?_⟩⟩, HB.out _⟩
  · intro g d tv _ h
    exact FunV.of ge2.1 rfl (txt1 h)
  · intro d tv h
    exact FunV.of ge2.2.1 rfl (txt2 d tv w1 h)
  · intro d tv h hc
    exact FunV.of ge2.2.2.1 rfl (txt3 d tv w1 h hc)
  · intro base F g M s d tv _ hp hf hbk hc hsz
    exact FunV.of ge2.2.2.2.1 rfl (txt4 d tv w1 hp hf hbk hc)
  · intro base F c g gd S R k d tv _ hS hR hL h
    rw [rd_one]
    exact FunV.of ge2.2.2.2.2 rfl (txt5 h (szR hS hR) hL)
theorem same_lies {w w1 : World} {b : Nat} {t : TypeId} {cs : Array Value} (h : Lies w b t cs) (e : w1.heap[b]? = w.heap[b]?) : Lies w1 b t cs := e.trans h
theorem size_alloc (w : World) (o : Obj) : (w.alloc o).heap.size = w.heap.size + 1 := by simp
/-- Two boxes, and the result's cell. -/
theorem boxes2 (w : World) (t1 t2 : TypeId) (c1 c2 : Array Value) (o : Obj) : Lies (((w.alloc (.cells c1 t1)).alloc (.cells c2 t2)).alloc o) w.heap.size t1 c1 ∧ Lies (((w.alloc (.cells c1 t1)).alloc (.cells c2 t2)).alloc o) (w.heap.size + 1) t2 c2 ∧ Below w.heap.size w (((w.alloc (.cells c1 t1)).alloc (.cells c2 t2)).alloc o) := by
  refine ⟨((Lies.new w t1 c1).alloc _).alloc _, ?_, (((Below.refl _ _).alloc (Nat.le_refl _) _).alloc (by simp) _).alloc (by simp; omega) _⟩
  have := (Lies.new (w.alloc (.cells c1 t1)) t2 c2).alloc o
  rwa [size_alloc] at this
theorem boxes1 (w : World) (t1 : TypeId) (c1 : Array Value) (o : Obj) : Lies ((w.alloc (.cells c1 t1)).alloc o) w.heap.size t1 c1 ∧ Below w.heap.size w ((w.alloc (.cells c1 t1)).alloc o) :=
  ⟨(Lies.new w t1 c1).alloc _, ((Below.refl _ _).alloc (Nat.le_refl _) _).alloc (by simp) _⟩
set_option maxHeartbeats 1000000 in
theorem address_any (six : Bool) (n : Nat) (hn : (if six then 16 else 4) = n) (w : World) : Calls Tryz.prog 132 #[.bool six, .int .i64 (n : Int)] w (Makes w [.adr six]) := by
  have HB := Lib.hid (boxes2 w 4 3 #[.bool six] #[.int .i64 (n : Int)])
  have hsz : ∀ d : MD, ((sizeK [.adr six] d : Nat) : Int) = (n : Int) := fun d => by rw [size_one, ← hn]; rfl
  have HSZ := Lib.hid hsz
  clear hsz
  go_enter Tryz.func132, Tryz.ntmps132
  go_wp2
  refine bodyPost_ret (v := .agg #[.func (.func 169) #[] #[], .func (.func 170) #[] #[.pointer (some ⟨w.heap.size, 0, none⟩)], .func (.func 172) #[] #[.pointer (some ⟨w.heap.size + 1, 0, none⟩)], .func (.func 173) #[] #[], .func (.func 175) #[] #[.pointer (some ⟨w.heap.size + 1, 0, none⟩)]]) (by simp [results, Tryz.results132, go_sem]) rfl ?_
  obtain ⟨l1, l2, hb⟩ := HB.out (.cells #[.func (.func 169) #[] #[], .func (.func 170) #[] #[.pointer (some ⟨w.heap.size, 0, none⟩)], .func (.func 172) #[] #[.pointer (some ⟨w.heap.size + 1, 0, none⟩)], .func (.func 173) #[] #[], .func (.func 175) #[] #[.pointer (some ⟨w.heap.size + 1, 0, none⟩)]] 139)
  refine ⟨_, rfl, ⟨fun j => j = w.heap.size ∨ j = w.heap.size + 1, fun j hj => ?_, _, _, _, _, _, rfl, ⟨⟨_, _, rfl, ge3.1⟩, ⟨_, _, rfl, ge3.2.1⟩, ⟨_, _, rfl, ge3.2.2.1⟩, ⟨_, _, rfl, ge3.2.2.2.1⟩, ⟨_, _, rfl, ge3.2.2.2.2⟩⟩, fun w1 hz hs => ?_⟩, hb⟩
  · rcases hj with rfl | rfl
    · exact ⟨Nat.le_refl _, _, _, l1⟩
    · exact ⟨by omega, _, _, l2⟩
  have m1 := same_lies l1 (hs _ (.inl rfl))
  have m2 := same_lies l2 (hs _ (.inr rfl))
  refine ⟨?_, ?_, ?_, ?_, ?_⟩
  · intro g d tv _ h
    exact FunV.of ge3.1 rfl (adr1 six h)
  · intro d tv h
    exact FunV.of ge3.2.1 rfl (adr2 six w.heap.size d tv w1 h (m1.cell 0) m1.lt)
  · intro d tv h _
    exact FunV.of ge3.2.2.1 rfl (adr3 six (w.heap.size + 1) d tv w1 n (HSZ.out d) (m2.cell 0) m2.lt)
  · intro base F g M s d tv _ hp hf _ hc _
    exact FunV.of ge3.2.2.2.1 rfl (adr4 six d tv w1 hp hf hc)
  · intro base F c g gd S R k d tv hF hS hR _ h
    rw [rd_one]
    exact FunV.of ge3.2.2.2.2 rfl (adr5 six (w.heap.size + 1) n hn h (szR hS hR) (m2.cell 0) m2.lt (hF _ (.inr rfl)))
set_option maxHeartbeats 1000000 in
theorem numbers_any (a b c' d' e : Int) (hw : Wd5 a b c' d' e) (w : World) : Calls Tryz.prog 135 #[wsV a b c' d' e] w (Makes w [numP a b c' d' e]) := by
  have HB := Lib.hid (boxes1 w 212 #[.int .i64 a, .int .i64 b, .int .i64 c', .int .i64 d', .int .i64 e])
  have HW := Lib.hid hw
  clear hw
  go_enter Tryz.func135, Tryz.ntmps135
  go_wp2
  refine bodyPost_ret (v := .agg #[.func (.func 186) #[] #[], .func (.func 187) #[] #[.pointer (some ⟨w.heap.size, 0, none⟩)], .func (.func 189) #[] #[.pointer (some ⟨w.heap.size, 0, none⟩)], .func (.func 191) #[] #[.pointer (some ⟨w.heap.size, 0, none⟩)], .func (.func 193) #[] #[.pointer (some ⟨w.heap.size, 0, none⟩)]]) (by simp [results, Tryz.results135, go_sem]) rfl ?_
  obtain ⟨l1, hb⟩ := HB.out (.cells #[.func (.func 186) #[] #[], .func (.func 187) #[] #[.pointer (some ⟨w.heap.size, 0, none⟩)], .func (.func 189) #[] #[.pointer (some ⟨w.heap.size, 0, none⟩)], .func (.func 191) #[] #[.pointer (some ⟨w.heap.size, 0, none⟩)], .func (.func 193) #[] #[.pointer (some ⟨w.heap.size, 0, none⟩)]] 139)
  refine ⟨_, rfl, ⟨fun j => j = w.heap.size, fun j hj => ?_, _, _, _, _, _, rfl, ⟨⟨_, _, rfl, ge5.1⟩, ⟨_, _, rfl, ge5.2.1⟩, ⟨_, _, rfl, ge5.2.2.1⟩, ⟨_, _, rfl, ge5.2.2.2.1⟩, ⟨_, _, rfl, ge5.2.2.2.2⟩⟩, fun w1 hz hs => ?_⟩, hb⟩
  · subst hj
    exact ⟨Nat.le_refl _, _, _, l1⟩
  have m1 : WB w1 w.heap.size a b c' d' e := same_lies l1 (hs _ rfl)
  refine ⟨?_, ?_, ?_, ?_, ?_⟩
  · intro g d tv _ h
    exact FunV.of ge5.1 rfl (nbr1 _ ⟨_, _, _, _, _, rfl⟩ h)
  · intro d tv h
    exact FunV.of ge5.2.1 rfl (nbr2 HW.out w.heap.size d tv w1 h m1)
  · intro d tv h _
    exact FunV.of ge5.2.2.1 rfl (nbr3 HW.out w.heap.size d tv w1 m1)
  · intro base F g M s d tv _ hp hf _ hc _
    exact FunV.of ge5.2.2.2.1 rfl (nbr4 HW.out w.heap.size d tv w1 hp hf m1)
  · intro base F c g gd S R k d tv hF hS hR _ h
    rw [rd_one]
    exact FunV.of ge5.2.2.2.2 rfl (nbr5 HW.out w.heap.size h (szR hS hR) m1)
set_option maxHeartbeats 1000000 in
theorem names_tn (w : World) : Calls Tryz.prog 129 #[.func (.func 130) #[] #[], .agg #[.func (.func 71) #[] #[], .func (.func 154) #[] #[]]] w (Makes w [.nam false true]) := by
  have HB := Lib.hid (boxes2 w 203 206 #[.func (.func 130) #[] #[]] #[.func (.func 71) #[] #[], .func (.func 154) #[] #[]])
  go_enter Tryz.func129, Tryz.ntmps129
  go_wp2
  refine bodyPost_ret (v := .agg #[.func (.func 163) #[] #[.pointer (some ⟨w.heap.size, 0, none⟩)], .func (.func 164) #[] #[.pointer (some ⟨w.heap.size, 0, none⟩)], .func (.func 165) #[] #[.pointer (some ⟨w.heap.size, 0, none⟩)], .func (.func 166) #[] #[.pointer (some ⟨w.heap.size + 1, 0, none⟩), .pointer (some ⟨w.heap.size, 0, none⟩)], .func (.func 167) #[] #[.pointer (some ⟨w.heap.size + 1, 0, none⟩), .pointer (some ⟨w.heap.size, 0, none⟩)]]) (by simp [results, Tryz.results129, go_sem]) rfl ?_
  obtain ⟨l1, l2, hb⟩ := HB.out (.cells #[.func (.func 163) #[] #[.pointer (some ⟨w.heap.size, 0, none⟩)], .func (.func 164) #[] #[.pointer (some ⟨w.heap.size, 0, none⟩)], .func (.func 165) #[] #[.pointer (some ⟨w.heap.size, 0, none⟩)], .func (.func 166) #[] #[.pointer (some ⟨w.heap.size + 1, 0, none⟩), .pointer (some ⟨w.heap.size, 0, none⟩)], .func (.func 167) #[] #[.pointer (some ⟨w.heap.size + 1, 0, none⟩), .pointer (some ⟨w.heap.size, 0, none⟩)]] 139)
  refine ⟨_, rfl, ⟨fun j => j = w.heap.size ∨ j = w.heap.size + 1, fun j hj => ?_, _, _, _, _, _, rfl, ⟨⟨_, _, rfl, ge4.1⟩, ⟨_, _, rfl, ge4.2.1⟩, ⟨_, _, rfl, ge4.2.2.1⟩, ⟨_, _, rfl, ge4.2.2.2.1⟩, ⟨_, _, rfl, ge4.2.2.2.2⟩⟩, fun w1 hz hs => ?_⟩, hb⟩
  · rcases hj with rfl | rfl
    · exact ⟨Nat.le_refl _, _, _, l1⟩
    · exact ⟨by omega, _, _, l2⟩
  have m1 := same_lies l1 (hs _ (.inl rfl))
  have m2 := same_lies l2 (hs _ (.inr rfl))
  refine ⟨?_, ?_, ?_, ?_, ?_⟩
  · intro g d tv _ h
    exact FunV.of ge4.1 rfl (nam1 false true h (m1.cell 0))
  · intro d tv h
    exact FunV.of ge4.2.1 rfl (nam2 false true w.heap.size d tv w1 h (m1.cell 0) m1.lt)
  · intro d tv h _
    exact FunV.of ge4.2.2.1 rfl (nam3 false true w.heap.size d tv w1 h (m1.cell 0) m1.lt)
  · intro base F g M s d tv hF hp hf _ hc _
    exact FunV.of ge4.2.2.2.1 rfl (nam4_tn (w.heap.size + 1) w.heap.size d tv w1 hp hf (m2.cell 0) (m1.cell 0) m2.lt m1.lt (hF _ (.inr rfl)) (hF _ (.inl rfl)))
  · intro base F c g gd S R k d tv hF hS hR _ h
    rw [rd_one]
    exact FunV.of ge4.2.2.2.2 rfl (nam5_tn (w.heap.size + 1) w.heap.size h hS (szR hS hR) m2 (m1.cell 0) m1.lt (hF _ (.inr rfl)) (hF _ (.inl rfl)))
set_option maxHeartbeats 1000000 in
theorem names_mn (w : World) : Calls Tryz.prog 129 #[.func (.func 134) #[] #[], .agg #[.func (.func 71) #[] #[], .func (.func 154) #[] #[]]] w (Makes w [.nam true true]) := by
  have HB := Lib.hid (boxes2 w 203 206 #[.func (.func 134) #[] #[]] #[.func (.func 71) #[] #[], .func (.func 154) #[] #[]])
  go_enter Tryz.func129, Tryz.ntmps129
  go_wp2
  refine bodyPost_ret (v := .agg #[.func (.func 163) #[] #[.pointer (some ⟨w.heap.size, 0, none⟩)], .func (.func 164) #[] #[.pointer (some ⟨w.heap.size, 0, none⟩)], .func (.func 165) #[] #[.pointer (some ⟨w.heap.size, 0, none⟩)], .func (.func 166) #[] #[.pointer (some ⟨w.heap.size + 1, 0, none⟩), .pointer (some ⟨w.heap.size, 0, none⟩)], .func (.func 167) #[] #[.pointer (some ⟨w.heap.size + 1, 0, none⟩), .pointer (some ⟨w.heap.size, 0, none⟩)]]) (by simp [results, Tryz.results129, go_sem]) rfl ?_
  obtain ⟨l1, l2, hb⟩ := HB.out (.cells #[.func (.func 163) #[] #[.pointer (some ⟨w.heap.size, 0, none⟩)], .func (.func 164) #[] #[.pointer (some ⟨w.heap.size, 0, none⟩)], .func (.func 165) #[] #[.pointer (some ⟨w.heap.size, 0, none⟩)], .func (.func 166) #[] #[.pointer (some ⟨w.heap.size + 1, 0, none⟩), .pointer (some ⟨w.heap.size, 0, none⟩)], .func (.func 167) #[] #[.pointer (some ⟨w.heap.size + 1, 0, none⟩), .pointer (some ⟨w.heap.size, 0, none⟩)]] 139)
  refine ⟨_, rfl, ⟨fun j => j = w.heap.size ∨ j = w.heap.size + 1, fun j hj => ?_, _, _, _, _, _, rfl, ⟨⟨_, _, rfl, ge4.1⟩, ⟨_, _, rfl, ge4.2.1⟩, ⟨_, _, rfl, ge4.2.2.1⟩, ⟨_, _, rfl, ge4.2.2.2.1⟩, ⟨_, _, rfl, ge4.2.2.2.2⟩⟩, fun w1 hz hs => ?_⟩, hb⟩
  · rcases hj with rfl | rfl
    · exact ⟨Nat.le_refl _, _, _, l1⟩
    · exact ⟨by omega, _, _, l2⟩
  have m1 := same_lies l1 (hs _ (.inl rfl))
  have m2 := same_lies l2 (hs _ (.inr rfl))
  refine ⟨?_, ?_, ?_, ?_, ?_⟩
  · intro g d tv _ h
    exact FunV.of ge4.1 rfl (nam1 true true h (m1.cell 0))
  · intro d tv h
    exact FunV.of ge4.2.1 rfl (nam2 true true w.heap.size d tv w1 h (m1.cell 0) m1.lt)
  · intro d tv h _
    exact FunV.of ge4.2.2.1 rfl (nam3 true true w.heap.size d tv w1 h (m1.cell 0) m1.lt)
  · intro base F g M s d tv hF hp hf _ hc _
    exact FunV.of ge4.2.2.2.1 rfl (nam4_mn (w.heap.size + 1) w.heap.size d tv w1 hp hf (m2.cell 0) (m1.cell 0) m2.lt m1.lt (hF _ (.inr rfl)) (hF _ (.inl rfl)))
  · intro base F c g gd S R k d tv hF hS hR _ h
    rw [rd_one]
    exact FunV.of ge4.2.2.2.2 rfl (nam5_mn (w.heap.size + 1) w.heap.size h hS (szR hS hR) m2 (m1.cell 0) m1.lt (hF _ (.inr rfl)) (hF _ (.inl rfl)))
set_option maxHeartbeats 1000000 in
theorem names_tp (w : World) : Calls Tryz.prog 129 #[.func (.func 130) #[] #[], .agg #[.func (.func 200) #[] #[], .func (.func 201) #[] #[]]] w (Makes w [.nam false false]) := by
  have HB := Lib.hid (boxes2 w 203 206 #[.func (.func 130) #[] #[]] #[.func (.func 200) #[] #[], .func (.func 201) #[] #[]])
  go_enter Tryz.func129, Tryz.ntmps129
  go_wp2
  refine bodyPost_ret (v := .agg #[.func (.func 163) #[] #[.pointer (some ⟨w.heap.size, 0, none⟩)], .func (.func 164) #[] #[.pointer (some ⟨w.heap.size, 0, none⟩)], .func (.func 165) #[] #[.pointer (some ⟨w.heap.size, 0, none⟩)], .func (.func 166) #[] #[.pointer (some ⟨w.heap.size + 1, 0, none⟩), .pointer (some ⟨w.heap.size, 0, none⟩)], .func (.func 167) #[] #[.pointer (some ⟨w.heap.size + 1, 0, none⟩), .pointer (some ⟨w.heap.size, 0, none⟩)]]) (by simp [results, Tryz.results129, go_sem]) rfl ?_
  obtain ⟨l1, l2, hb⟩ := HB.out (.cells #[.func (.func 163) #[] #[.pointer (some ⟨w.heap.size, 0, none⟩)], .func (.func 164) #[] #[.pointer (some ⟨w.heap.size, 0, none⟩)], .func (.func 165) #[] #[.pointer (some ⟨w.heap.size, 0, none⟩)], .func (.func 166) #[] #[.pointer (some ⟨w.heap.size + 1, 0, none⟩), .pointer (some ⟨w.heap.size, 0, none⟩)], .func (.func 167) #[] #[.pointer (some ⟨w.heap.size + 1, 0, none⟩), .pointer (some ⟨w.heap.size, 0, none⟩)]] 139)
  refine ⟨_, rfl, ⟨fun j => j = w.heap.size ∨ j = w.heap.size + 1, fun j hj => ?_, _, _, _, _, _, rfl, ⟨⟨_, _, rfl, ge4.1⟩, ⟨_, _, rfl, ge4.2.1⟩, ⟨_, _, rfl, ge4.2.2.1⟩, ⟨_, _, rfl, ge4.2.2.2.1⟩, ⟨_, _, rfl, ge4.2.2.2.2⟩⟩, fun w1 hz hs => ?_⟩, hb⟩
  · rcases hj with rfl | rfl
    · exact ⟨Nat.le_refl _, _, _, l1⟩
    · exact ⟨by omega, _, _, l2⟩
  have m1 := same_lies l1 (hs _ (.inl rfl))
  have m2 := same_lies l2 (hs _ (.inr rfl))
  refine ⟨?_, ?_, ?_, ?_, ?_⟩
  · intro g d tv _ h
    exact FunV.of ge4.1 rfl (nam1 false false h (m1.cell 0))
  · intro d tv h
    exact FunV.of ge4.2.1 rfl (nam2 false false w.heap.size d tv w1 h (m1.cell 0) m1.lt)
  · intro d tv h _
    exact FunV.of ge4.2.2.1 rfl (nam3 false false w.heap.size d tv w1 h (m1.cell 0) m1.lt)
  · intro base F g M s d tv hF hp hf _ hc _
    exact FunV.of ge4.2.2.2.1 rfl (nam4_tp (w.heap.size + 1) w.heap.size d tv w1 hp hf (m2.cell 0) (m1.cell 0) m2.lt m1.lt (hF _ (.inr rfl)) (hF _ (.inl rfl)))
  · intro base F c g gd S R k d tv hF hS hR _ h
    rw [rd_one]
    exact FunV.of ge4.2.2.2.2 rfl (nam5_tp (w.heap.size + 1) w.heap.size h hS (szR hS hR) m2 (m1.cell 0) m1.lt (hF _ (.inr rfl)) (hF _ (.inl rfl)))
theorem pointed_any (w : World) : Calls Tryz.prog 131 #[] w (Told w (.agg #[.func (.func 71) #[] #[], .func (.func 154) #[] #[]])) := by
  have HB : Hid (∀ o, Below w.heap.size w (w.alloc o)) := Lib.hid fun o => (Below.refl _ _).alloc (Nat.le_refl _) o
  go_enter Tryz.func131, Tryz.ntmps131
  go_wp2
  refine bodyPost_ret (v := .agg #[.func (.func 71) #[] #[], .func (.func 154) #[] #[]]) (by simp [results, Tryz.results131, go_sem]) rfl ?_
  exact ⟨rfl, HB.out _⟩
theorem plain_any (w : World) : Calls Tryz.prog 137 #[] w (Told w (.agg #[.func (.func 200) #[] #[], .func (.func 201) #[] #[]])) := by
  have HB : Hid (∀ o, Below w.heap.size w (w.alloc o)) := Lib.hid fun o => (Below.refl _ _).alloc (Nat.le_refl _) o
  go_enter Tryz.func137, Tryz.ntmps137
  go_wp2
  refine bodyPost_ret (v := .agg #[.func (.func 200) #[] #[], .func (.func 201) #[] #[]]) (by simp [results, Tryz.results137, go_sem]) rfl ?_
  exact ⟨rfl, HB.out _⟩
end Go.Proofs.YtodedbokeodmkaaGreat
namespace Go.Proofs.YtodedbokeodmkaaGreat
open Go.RowKit
set_option linter.unusedVariables false
set_option maxRecDepth 100000

/-- A function, with what it captured. -/
structure Fc where
  id : FuncId
  caps : Array Value
abbrev fv (x : Fc) : Value := .func (.func x.id) #[] x.caps
/-- A kind's functions. -/
structure K5 where
  a0 : Fc
  a1 : Fc
  a2 : Fc
  a3 : Fc
  a4 : Fc
abbrev kv (x : K5) : Value := .agg #[fv x.a0, fv x.a1, fv x.a2, fv x.a3, fv x.a4]
def flatL (L : List K5) : List Value := L.flatMap fun x => [fv x.a0, fv x.a1, fv x.a2, fv x.a3, fv x.a4]
def flatK (L : List K5) : Array Value := (flatL L).toArray
theorem flat_at (L : List K5) (k : Nat) (hk : k < L.length) (j : Nat) (hj : j < 5) : (flatL L)[k * 5 + j]? = ([fv L[k].a0, fv L[k].a1, fv L[k].a2, fv L[k].a3, fv L[k].a4] : List Value)[j]? := by
  induction L generalizing k with
  | nil => simp at hk
  | cons x L ih =>
    have e : flatL (x :: L) = [fv x.a0, fv x.a1, fv x.a2, fv x.a3, fv x.a4] ++ flatL L := rfl
    rw [e]
    rcases k with _ | k
    · rw [List.getElem?_append_left (by simp; omega)]
      simp
    · rw [List.getElem?_append_right (by simp; omega)]
      have := ih k (by simpa using hk)
      rw [List.getElem_cons_succ, ← this]
      congr 1
      simp
      omega
/-- The row's block. -/
def KB (w : World) (gp : Nat) (L : List K5) : Prop := Lies w gp 139 (flatK L)
theorem KB.cells {w : World} {gp : Nat} {L : List K5} (h : KB w gp L) (k : Nat) (hk : k < L.length) :
    w.cell? ⟨gp, k * 5, none⟩ = some (fv L[k].a0) ∧ w.cell? ⟨gp, k * 5 + 1, none⟩ = some (fv L[k].a1) ∧ w.cell? ⟨gp, k * 5 + 2, none⟩ = some (fv L[k].a2) ∧ w.cell? ⟨gp, k * 5 + 3, none⟩ = some (fv L[k].a3) ∧ w.cell? ⟨gp, k * 5 + 4, none⟩ = some (fv L[k].a4) := by
  have hc := fun j => Lies.cell h j
  have ha := fun j hj => flat_at L k hk j hj
  have e : ∀ i : Nat, (flatK L)[i]? = (flatL L)[i]? := fun i => by unfold flatK; rw [List.getElem?_toArray]
  refine ⟨?_, ?_, ?_, ?_, ?_⟩
  · rw [hc, e]; exact ha 0 (by decide)
  · rw [hc, e]; exact ha 1 (by decide)
  · rw [hc, e]; exact ha 2 (by decide)
  · rw [hc, e]; exact ha 3 (by decide)
  · rw [hc, e]; exact ha 4 (by decide)
set_option maxHeartbeats 2000000 in
theorem firstK_any (gp cap : Nat) (L : List K5) (fid : FuncId) (caps : Array Value) (J : Nat → World → Prop) (Z : Nat → World → Prop) (w : World) (hgo : Goes fid) (hm : L.length ≤ 1000000)
    (hrow : ∀ k wx, J k wx → KB wx gp L) (hnx : ∀ k wx o, J k wx → J k (wx.alloc o)) (h0 : J 0 w) (hs : ∀ k wx (hk : k < L.length), J k wx → Calls Tryz.prog fid (#[kv L[k]] ++ caps) wx (FirstR (J (k + 1)) Z)) :
    Calls Tryz.prog 179 #[.slice (some ⟨gp, 0, none⟩) L.length cap, .func (.func fid) #[] caps] w (FirstR (J L.length) Z) := by
  have HR := Lib.hid hrow
  have HS := Lib.hid hs
  have HNX := Lib.hid hnx
  have HGO := Lib.hid hgo
  have H0 := Lib.hid h0
  clear hrow hs h0 hgo hnx
  go_enter Tryz.func179, Tryz.ntmps179
  go_wp2
  go_loopw [10] (fun i wr => ∃ k : Nat, i = .int .i64 k ∧ k ≤ L.length ∧ J k wr) (fun i _ => L.length - (intOf i).toNat)
  case atStart => exact ⟨0, rfl, Nat.zero_le _, H0.out⟩
  case round =>
    clear H0
    obtain ⟨k, rfl, hk, hJ⟩ := hrel
    have HJ := Lib.hid hJ
    by_cases hlt : k < L.length
    · obtain ⟨c0, c1, c2, c3, c4⟩ := (HR.out k wr hJ).cells k hlt
      have HC := Lib.hid (HS.out k _ hlt (HNX.out k wr (.cells #[fv L[k].a0, fv L[k].a1, fv L[k].a2, fv L[k].a3, fv L[k].a4] 139) hJ))
      clear hJ
      have hgo := HGO.out
      unfold Goes at hgo
      go_wp2_with ((with_reducible refine HC.out.mono ?_); rintro e w1 ⟨x, rfl, hx⟩; have HX := Lib.hid hx; clear hx)
      · go_ret
        have hx : ((x : Int) != 0) = true := by assumption
        have hx : x ≠ 0 := fun h => by rw [h] at hx; exact absurd hx (by decide)
        exact FirstR.bad hx (HX.out.resolve_left fun h => hx h.1).2
      · have hx : ((x : Int) != 0) = false := by assumption
        have hx : x = 0 := Classical.byContradiction fun h => by simp [h] at hx
        go_roundw
        case rel => exact ⟨k + 1, by go_num, by omega, (HX.out.resolve_right fun h => h.1 hx).2⟩
        case measure => simp [intOf]; omega
    · obtain rfl : k = L.length := by omega
      clear hJ
      go_wp2
      go_ret
      exact FirstR.ok HJ.out
end Go.Proofs.YtodedbokeodmkaaGreat
namespace Go.Proofs.YtodedbokeodmkaaGreat
open Go.RowKit
set_option linter.unusedVariables false
set_option maxRecDepth 100000

theorem FunV.calls {x : Fc} {args : Array Value} {w : World} {R : Ending → World → Prop} (h : FunV (fv x) args w R) : Calls Tryz.prog x.id (args ++ x.caps) w R := by
  obtain ⟨fid, caps, e, _, h⟩ := h
  injection e with e1 _ e3
  injection e1 with e1
  subst e1; subst e3
  exact h
theorem KOps.mono {B1 B2 : Nat → Prop} {K : List Pt} {w : World} {f0 f1 f2 f3 f4 : Value} (h : KOps B1 K w f0 f1 f2 f3 f4) (hs : ∀ j, B1 j → B2 j) : KOps B2 K w f0 f1 f2 f3 f4 :=
  ⟨fun g d tv hg hl => h.drop g d tv (fun hb => hg (hs _ hb)) hl, h.check, h.size, fun base F g M s d tv hF => h.put base F g M s d tv (fun j hj => hF j (hs j hj)), fun base F c g gd S R k d tv hF => h.read base F c g gd S R k d tv (fun j hj => hF j (hs j hj))⟩
/-- The parts' functions, wherever the blocks Bs are as they were. -/
structure RowH (Bs : Nat → Prop) (w0 : World) (L : List K5) (ps : List Pt) : Prop where
  len : L.length = ps.length
  few : L.length ≤ 1000
  lt : ∀ j, Bs j → j < w0.heap.size
  ops : ∀ i (hi : i < L.length) (hp : i < ps.length) (w2 : World), w0.heap.size ≤ w2.heap.size → (∀ j, Bs j → w2.heap[j]? = w0.heap[j]?) → KOps Bs [ps[i]] w2 (fv L[i].a0) (fv L[i].a1) (fv L[i].a2) (fv L[i].a3) (fv L[i].a4)
  goes : ∀ i (hi : i < L.length), Goes L[i].a0.id ∧ Goes L[i].a1.id ∧ Goes L[i].a2.id ∧ Goes L[i].a3.id ∧ Goes L[i].a4.id
  txt : ∀ p ∈ ps, ∀ T R d k, (rdP T R p d k).d.L = d.L
  small : ∀ p ∈ ps, ∀ d, sizeP p d ≤ 4503599627370496
/-- The row stands: its box, its block, its parts. -/
structure RowW (Bs : Nat → Prop) (w0 : World) (L : List K5) (ps : List Pt) (bx gp : Nat) (w : World) : Prop where
  size : w0.heap.size ≤ w.heap.size
  same : ∀ j, Bs j → w.heap[j]? = w0.heap[j]?
  box : Lies w bx 233 #[.slice (some ⟨gp, 0, none⟩) L.length L.length]
  kb : KB w gp L
  Bx : Bs bx
  Bg : Bs gp
section
variable {Bs : Nat → Prop} {w0 w w' : World} {L : List K5} {ps : List Pt} {bx gp : Nat}
theorem RowW.keep (h : RowW Bs w0 L ps bx gp w) (hz : w.heap.size ≤ w'.heap.size) (hs : ∀ j, Bs j → w'.heap[j]? = w.heap[j]?) : RowW Bs w0 L ps bx gp w' :=
  ⟨Nat.le_trans h.size hz, fun j hj => (hs j hj).trans (h.same j hj), (hs _ h.Bx).trans h.box, (hs _ h.Bg).trans h.kb, h.Bx, h.Bg⟩
theorem RowW.next (H : RowH Bs w0 L ps) (h : RowW Bs w0 L ps bx gp w) (hb : Below w.heap.size w w') : RowW Bs w0 L ps bx gp w' := h.keep hb.size fun j hj => hb.block j (Nat.lt_of_lt_of_le (H.lt j hj) h.size)
theorem RowW.grown (H : RowH Bs w0 L ps) (h : RowW Bs w0 L ps bx gp w) {g : Nat} (hg : ¬ Bs g) (hgr : w.grownBy w' (some g)) : RowW Bs w0 L ps bx gp w' := h.keep hgr.size fun j hj => hgr.block j (Nat.lt_of_lt_of_le (H.lt j hj) h.size) (fun e => hg (by injection e with e; exact e ▸ hj))
theorem RowW.kf (H : RowH Bs w0 L ps) (h : RowW Bs w0 L ps bx gp w) {base : Nat} {F F' : Nat → Prop} (hF : ∀ j, Bs j → ¬ F j) (hk : Kf base F F' w w') : RowW Bs w0 L ps bx gp w' := h.keep hk.below.size fun j hj => hk.rest j (Nat.lt_of_lt_of_le (H.lt j hj) h.size) (hF j hj)
theorem RowW.kops (H : RowH Bs w0 L ps) (h : RowW Bs w0 L ps bx gp w) (i : Nat) (hi : i < L.length) (hp : i < ps.length) : KOps Bs [ps[i]] w (fv L[i].a0) (fv L[i].a1) (fv L[i].a2) (fv L[i].a3) (fv L[i].a4) := H.ops i hi hp w h.size h.same
theorem kf_out {base : Nat} {F F' : Nat → Prop} (H : RowH Bs w0 L ps) (h : RowW Bs w0 L ps bx gp w) (hF : ∀ j, Bs j → ¬ F j) (hk : Kf base F F' w w') : ∀ j, Bs j → ¬ F' j := fun j hj hf => by
  rcases hk.sub j hf with h' | h'
  · exact hF j hj h'
  · have := H.lt j hj
    have := h.size
    omega

/-! ### Dropping -/
theorem dropK_take {d : MD} {k : Nat} (hk : k < ps.length) : dropK (ps.take (k + 1)) d = dropK [ps[k]] (dropK (ps.take k) d) := by
  unfold dropK
  rw [List.take_succ_eq_append_getElem hk, List.foldl_append]
set_option maxHeartbeats 2000000 in
theorem row1 (H : RowH Bs w0 L ps) (h : RowW Bs w0 L ps bx gp w) {g : Nat} {d : MD} {tv : Value} (hg : ¬ Bs g) (hl : Lies w g 30 (cellsD d tv)) :
    Calls Tryz.prog 177 #[pp g, .pointer (some ⟨bx, 0, none⟩)] w (Dropped w g (dropK ps d) d.L tv) := by
  have HH := Lib.hid H
  have HW := Lib.hid h
  have hc := h.box.cell 0
  have hlen := H.len
  have hfew := H.few
  have H0 : Hid (w.grownBy w (some g) ∧ ∃ tv', Lies w g 30 (cellsD (dropK (ps.take 0) d) tv') ∧ ((tv' = tv ∧ (dropK (ps.take 0) d).L = d.L) ∨ (tv' = nilS ∧ (dropK (ps.take 0) d).L = []))) := Lib.hid ⟨⟨rfl, rfl, rfl, Nat.le_refl _, fun _ _ _ => rfl⟩, tv, hl, .inl ⟨rfl, rfl⟩⟩
  clear H h hl
  have HLen := Lib.hid hlen
  clear hlen
  go_enter Tryz.func177, Tryz.ntmps177
  go_wp2
  go_loopw [7] (fun i wr => ∃ k : Nat, i = .int .i64 k ∧ k ≤ L.length ∧ w.grownBy wr (some g) ∧ ∃ tv', Lies wr g 30 (cellsD (dropK (ps.take k) d) tv') ∧ ((tv' = tv ∧ (dropK (ps.take k) d).L = d.L) ∨ (tv' = nilS ∧ (dropK (ps.take k) d).L = []))) (fun i _ => L.length - (intOf i).toNat)
  case atStart => exact ⟨0, rfl, Nat.zero_le _, H0.out⟩
  case round =>
    clear H0
    obtain ⟨k, rfl, hk, hgr, tv', hl, hor⟩ := hrel
    have HW1 := Lib.hid (HW.out.grown HH.out hg hgr)
    by_cases hlt : k < L.length
    · have hpk : k < ps.length := by rw [← HLen.out]; exact hlt
      obtain ⟨c0, c1, c2, c3, c4⟩ := HW1.out.kb.cells k hlt
      have hW2 := HW1.out.next HH.out (w' := wr.alloc (.cells #[fv L[k].a0, fv L[k].a1, fv L[k].a2, fv L[k].a3, fv L[k].a4] 139)) ((Below.refl _ _).alloc (Nat.le_refl _) _)
      have HC := Lib.hid ((hW2.kops HH.out k hlt hpk).drop g _ tv' hg (hl.alloc _)).calls
      have HD := Lib.hid (dropK_take (d := d) hpk)
      have hgo := (HH.out.goes k hlt).1
      unfold Goes at hgo
      have HOr := Lib.hid hor
      have HGr := Lib.hid hgr
      clear hl hor hgr hW2
      go_wp2_with ((with_reducible refine HC.out.mono ?_); rintro e w1 ⟨⟨u, rfl⟩, hg1, tv2, hl2, ho2⟩; have HG1 := Lib.hid hg1; have HL2 := Lib.hid hl2; have HO2 := Lib.hid ho2; clear hg1 hl2 ho2)
      go_roundw
      case rel =>
        refine ⟨k + 1, by go_num, by omega, grown_next HGr.out (grown_next (World.grownBy_alloc wr _ _) HG1.out), tv2, by rw [HD.out]; exact HL2.out, ?_⟩
        rw [HD.out]
        rcases HO2.out with ⟨rfl, e2⟩ | ⟨rfl, e2⟩
        · rw [e2]
          exact HOr.out
        · exact .inr ⟨rfl, e2⟩
      case measure => simp [intOf]; omega
    · obtain rfl : k = L.length := by omega
      have HT : Hid (ps.take L.length = ps) := Lib.hid (by rw [HLen.out]; exact List.take_length ..)
      have HGr := Lib.hid hgr
      have HOr := Lib.hid hor
      have HL2 := Lib.hid hl
      clear hgr hor hl
      go_wp2
      refine bodyPost_ret (v := .tuple #[]) (by simp [results, Tryz.results177, go_sem]) rfl ?_
      have x1 := HOr.out
      have x2 := HL2.out
      rw [HT.out] at x1 x2
      exact ⟨⟨_, rfl⟩, HGr.out, tv', x2, x1⟩
end
end Go.Proofs.YtodedbokeodmkaaGreat
namespace Go.Proofs.YtodedbokeodmkaaGreat
open Go.RowKit
set_option linter.unusedVariables false
set_option maxRecDepth 100000

theorem firstE_zero {α : Type} {f : α → Nat} : ∀ {l : List α}, firstE f l = 0 → ∀ x ∈ l, f x = 0
  | [], _, _, hx => by cases hx
  | y :: r, h, x, hx => by
    unfold firstE at h
    split at h
    · rename_i hn
      exact absurd h hn
    · rename_i hn
      rcases List.mem_cons.1 hx with rfl | hx
      · exact Decidable.not_not.1 hn
      · exact firstE_zero h x hx
theorem firstE_at {α : Type} {f : α → Nat} : ∀ {l : List α} {k : Nat} (hk : k < l.length), (∀ x ∈ l.take k, f x = 0) → f l[k] ≠ 0 → firstE f l = f l[k]
  | y :: r, 0, hk, _, hn => by
    unfold firstE
    rw [List.getElem_cons_zero] at hn ⊢
    rw [if_pos hn]
  | y :: r, k + 1, hk, h0, hn => by
    unfold firstE
    rw [List.getElem_cons_succ] at hn ⊢
    rw [if_neg (fun hy => hy (h0 y (by simp)))]
    exact firstE_at (by simpa using hk) (fun x hx => h0 x (by simp [hx])) hn
theorem firstE_none {α : Type} {f : α → Nat} : ∀ {l : List α}, (∀ x ∈ l, f x = 0) → firstE f l = 0
  | [], _ => rfl
  | y :: r, h => by
    unfold firstE
    rw [if_neg (fun hy => hy (h y (by simp)))]
    exact firstE_none fun x hx => h x (by simp [hx])
theorem take_zero {α : Type} {f : α → Nat} {l : List α} {k : Nat} (hk : k < l.length) (h : ∀ x ∈ l.take k, f x = 0) (h0 : f l[k] = 0) : ∀ x ∈ l.take (k + 1), f x = 0 := by
  intro x hx
  rw [List.take_succ_eq_append_getElem hk, List.mem_append] at hx
  rcases hx with hx | hx
  · exact h x hx
  · rw [List.mem_singleton.1 hx]; exact h0
theorem goR : Goes 180 ∧ Goes 183 ∧ Goes 185 := ⟨fun _ _ => by kernel_rfl, fun _ _ => by kernel_rfl, fun _ _ => by kernel_rfl⟩
section
variable {Bs : Nat → Prop} {w0 w w' : World} {L : List K5} {ps : List Pt} {bx gp : Nat}
/-- A part is looked at. -/
theorem row21 (x : K5) (hgo : Goes x.a1.id) {b : Nat} {d : MD} {tv : Value} (hb : Lies w b 30 (cellsD d tv)) {R : Ending → World → Prop}
    (hc : Calls Tryz.prog x.a1.id (#[dataV d tv] ++ x.a1.caps) (w.alloc (.cells #[fv x.a0, fv x.a1, fv x.a2, fv x.a3, fv x.a4] 139)) fun e w' => ∃ n : Int, e = .returned (.int .i64 n) ∧ R (.returned (.int .i64 n)) w') :
    Calls Tryz.prog 180 #[kv x, .pointer (some ⟨b, 0, none⟩)] w R := by
  have HC := Lib.hid hc
  have c0 := hb.cell 0
  have c1 := hb.cell 1
  have c2 := hb.cell 2
  have c3 := hb.cell 3
  have c4 := hb.cell 4
  have c5 := hb.cell 5
  have c6 := hb.cell 6
  have c7 := hb.cell 7
  have c8 := hb.cell 8
  have c9 := hb.cell 9
  have c10 := hb.cell 10
  have c11 := hb.cell 11
  have hlt := hb.lt
  unfold Goes at hgo
  clear hc hb
  go_enter Tryz.func180, Tryz.ntmps180
  go_wp2_with ((with_reducible refine HC.out.mono ?_); rintro e w1 ⟨n, rfl, hr⟩; have HR := Lib.hid hr; clear hr)
  exact HR.out
set_option maxHeartbeats 1000000 in
theorem row2 (H : RowH Bs w0 L ps) (h : RowW Bs w0 L ps bx gp w) (d : MD) (tv : Value) (hf : Fit w d tv) :
    Calls Tryz.prog 178 #[dataV d tv, .pointer (some ⟨bx, 0, none⟩)] w (Told w (.int .i64 (chkK ps d : Nat))) := by
  obtain ⟨W, hW⟩ : ∃ W, W = w.alloc (.cells (cellsD d tv) 30) := ⟨_, rfl⟩
  have hb0 := boxD w d tv
  rw [← hW] at hb0
  have hL : Lies W w.heap.size 30 (cellsD d tv) := by rw [hW]; exact Lies.new w _ _
  have hRW := h.next H hb0
  have hc := hRW.box.cell 0
  have hfW := hf.next hb0
  have HF := Lib.hid (firstK_any gp L.length L 180 #[.pointer (some ⟨w.heap.size, 0, none⟩)]
    (fun k wx => Below W.heap.size W wx ∧ ∀ p ∈ ps.take k, chkP p d = 0) (fun x wx => Below W.heap.size W wx ∧ chkK ps d = x) W goR.1 (Nat.le_trans H.few (by decide))
    (fun k wx hJ => (hRW.next H hJ.1).kb) (fun k wx o hJ => ⟨hJ.1.alloc hJ.1.size o, hJ.2⟩) ⟨Below.refl _ _, by simp⟩ (fun k wx hk hJ => by
      have hpk : k < ps.length := by rw [← H.len]; exact hk
      refine row21 L[k] (H.goes k hk).2.1 (hL.next hJ.1) ?_
      have hb2 : Below wx.heap.size wx (wx.alloc (.cells #[fv L[k].a0, fv L[k].a1, fv L[k].a2, fv L[k].a3, fv L[k].a4] 139)) := (Below.refl _ _).alloc (Nat.le_refl _) _
      have hb3 : Below W.heap.size W _ := hJ.1.trans (hb2.mono hJ.1.size)
      refine (((hRW.next H hb3).kops H k hk hpk).check d tv (hfW.next hb3)).calls.mono ?_
      rintro e w1 ⟨rfl, hb4⟩
      rw [chk_one]
      have hb5 : Below W.heap.size W w1 := hb3.trans (hb4.mono hb3.size)
      refine ⟨_, rfl, chkP ps[k] d, rfl, ?_⟩
      by_cases h0 : chkP ps[k] d = 0
      · exact .inl ⟨h0, hb5, take_zero (f := fun p => chkP p d) hpk hJ.2 h0⟩
      · exact .inr ⟨h0, hb5, firstE_at (f := fun p => chkP p d) hpk hJ.2 h0⟩))
  have hlen := H.len
  have HE : Hid (∀ x : Nat, ∀ w1, ((x = 0 ∧ Below W.heap.size W w1 ∧ ∀ p ∈ ps.take L.length, chkP p d = 0) ∨ (x ≠ 0 ∧ Below W.heap.size W w1 ∧ chkK ps d = x)) → x = chkK ps d ∧ Below w.heap.size w w1) := Lib.hid fun x w1 hx => by
    rcases hx with ⟨rfl, h1, h2⟩ | ⟨_, h1, h2⟩
    · rw [hlen, List.take_length] at h2
      exact ⟨(firstE_none h2).symm, hb0.trans (h1.mono hb0.size)⟩
    · exact ⟨h2.symm, hb0.trans (h1.mono hb0.size)⟩
  obtain ⟨q, hq⟩ : ∃ q, chkK ps d = q := ⟨_, rfl⟩
  rw [hq] at HE HF ⊢
  clear hq H h hf hb0 hL hRW hfW hlen
  unfold dataV
  go_enter Tryz.func178, Tryz.ntmps178
  go_upto_region 1 with (fail)
  rw [← hW]
  clear hW
  go_wp2_with (go_at_call 179; (with_reducible refine HF.out.mono ?_); rintro e w1 ⟨x, rfl, hx⟩; have HX := Lib.hid hx; clear hx)
  go_ret
  obtain ⟨rfl, hb⟩ := HE.out x w1 HX.out
  exact ⟨rfl, hb⟩

/-! ### Counting -/
theorem sizeK_take {d : MD} {k : Nat} (hk : k < ps.length) : sizeK (ps.take (k + 1)) d = sizeK (ps.take k) d + sizeP ps[k] d := by
  unfold sizeK
  rw [List.take_succ_eq_append_getElem hk, List.map_append, List.sum_append]
  simp
theorem sizeN_le (n : List UInt8) : sizeN n ≤ 255 := by
  unfold sizeN
  split
  · rename_i h
    have := (chkN_iff.1 h).1
    omega
  · omega
/-- A part that may be has no great size. -/
def Small (p : Pt) (d : MD) : Prop := sizeP p d ≤ 4503599627370496
set_option maxHeartbeats 2000000 in
theorem row3 (H : RowH Bs w0 L ps) (h : RowW Bs w0 L ps bx gp w) (d : MD) (tv : Value) (hf : Fit w d tv) (hc : chkK ps d = 0) (hsm : ∀ p ∈ ps, Small p d) :
    Calls Tryz.prog 181 #[dataV d tv, .pointer (some ⟨bx, 0, none⟩)] w (Told w (.int .i64 (sizeK ps d : Nat))) := by
  obtain ⟨W, hW⟩ : ∃ W, W = w.alloc (.cells (cellsD d tv) 30) := ⟨_, rfl⟩
  have hb0 := boxD w d tv
  rw [← hW] at hb0
  have hL : Lies W w.heap.size 30 (cellsD d tv) := by rw [hW]; exact Lies.new w _ _
  have hRW := h.next H hb0
  have hcb := hRW.box.cell 0
  have HFW := Lib.hid (hf.next hb0)
  have HRW := Lib.hid hRW
  have HH := Lib.hid H
  have HL := Lib.hid hL
  have HB0 := Lib.hid hb0
  have HLen := Lib.hid H.len
  have hfew := H.few
  have HZ := Lib.hid (firstE_zero hc)
  have HSm := Lib.hid hsm
  have HLe : Hid (∀ k, k ≤ L.length → sizeK (ps.take k) d ≤ k * 4503599627370496) := Lib.hid fun k hk => by
    induction k with
    | zero => simp [sizeK]
    | succ k ih =>
      have hpk : k < ps.length := by rw [← H.len]; omega
      rw [sizeK_take hpk]
      have h1 := ih (by omega)
      have h2 : sizeP ps[k] d ≤ 4503599627370496 := hsm _ (List.getElem_mem hpk)
      omega
  clear H h hf hb0 hL hRW hc hsm
  unfold dataV
  go_enter Tryz.func181, Tryz.ntmps181
  go_upto_region 1 with (fail)
  rw [← hW]
  clear hW
  go_wp2
  go_loopw [4, 9] (fun s i wr => ∃ k : Nat, i = .int .i64 k ∧ k ≤ L.length ∧ s = .int .i64 (sizeK (ps.take k) d : Nat) ∧ Below W.heap.size W wr) (fun _ i _ => L.length - (intOf i).toNat)
  case atStart => exact ⟨0, rfl, Nat.zero_le _, by simp [sizeK], Below.refl _ _⟩
  case round =>
    obtain ⟨k, rfl, hk, rfl, hb⟩ := hrel
    have hle := HLe.out k hk
    have hR1 := HRW.out.next HH.out hb
    by_cases hlt : k < L.length
    · have hpk : k < ps.length := by rw [← HLen.out]; exact hlt
      obtain ⟨c0, c1, c2, c3, c4⟩ := hR1.kb.cells k hlt
      have hb2 : Below wr.heap.size wr (wr.alloc (.cells #[fv L[k].a0, fv L[k].a1, fv L[k].a2, fv L[k].a3, fv L[k].a4] 139)) := (Below.refl _ _).alloc (Nat.le_refl _) _
      have hl1 := (HL.out.next hb).next hb2
      have d0 := hl1.cell 0
      have d1 := hl1.cell 1
      have d2 := hl1.cell 2
      have d3 := hl1.cell 3
      have d4 := hl1.cell 4
      have d5 := hl1.cell 5
      have d6 := hl1.cell 6
      have d7 := hl1.cell 7
      have d8 := hl1.cell 8
      have d9 := hl1.cell 9
      have d10 := hl1.cell 10
      have d11 := hl1.cell 11
      have hb3 : Below W.heap.size W _ := hb.trans (hb2.mono hb.size)
      have hz : chkP ps[k] d = 0 := HZ.out _ (List.getElem_mem hpk)
      have hsz : sizeP ps[k] d ≤ 4503599627370496 := HSm.out _ (List.getElem_mem hpk)
      have HC := Lib.hid (((hR1.next HH.out hb2).kops HH.out k hlt hpk).size d tv (HFW.out.next hb3) (by rw [chk_one]; exact hz)).calls
      rw [size_one] at HC
      have HV := Lib.hid (sizeK_take (d := d) hpk)
      have HB3 := Lib.hid hb3
      have hgo := (HH.out.goes k hlt).2.2.1
      unfold Goes at hgo
      obtain ⟨y, hy⟩ : ∃ y, sizeP ps[k] d = y := ⟨_, rfl⟩
      obtain ⟨z, hz'⟩ : ∃ z, sizeK (ps.take k) d = z := ⟨_, rfl⟩
      rw [hy] at HC HV hsz
      rw [hz'] at HV hle ⊢
      have hk1000 : k ≤ 1000 := by omega
      have hzl : z ≤ 4503599627370496000 := by omega
      clear hl1 hb hb2 hb3 hR1 hz hy hz' hle
      go_wp2_with ((with_reducible refine HC.out.mono ?_); rintro e w1 ⟨rfl, hb4⟩; have HB4 := Lib.hid hb4; clear hb4)
      go_roundw
      case rel => exact ⟨k + 1, by go_num, by omega, by rw [HV.out]; go_num, HB3.out.trans (HB4.out.mono HB3.out.size)⟩
      case measure => simp [intOf]; omega
    · obtain rfl : k = L.length := by omega
      have HB := Lib.hid hb
      have HT : Hid (ps.take L.length = ps) := Lib.hid (by rw [HLen.out]; exact List.take_length ..)
      clear hR1 hb
      obtain ⟨z, hz'⟩ : ∃ z, sizeK (ps.take L.length) d = z := ⟨_, rfl⟩
      have HZZ : Hid (sizeK ps d = z) := Lib.hid (by rw [← hz', HT.out])
      rw [hz']
      clear hz' hle
      go_wp2
      go_ret
      rw [HZZ.out]
      exact ⟨rfl, HB0.out.trans (HB.out.mono HB0.out.size)⟩

/-! ### Putting -/
theorem putK_step {M k : Nat} {d : MD} {s : PS} (hk : k < ps.length) : putK M (ps.drop k) d s = if (putP M ps[k] d s).1 = 0 then putK M (ps.drop (k + 1)) d (putP M ps[k] d s).2 else putP M ps[k] d s := by
  rw [List.drop_eq_getElem_cons hk]
  rfl
theorem le_sumL {l : List Nat} {x : Nat} (h : x ∈ l) : x ≤ l.sum := by
  induction l with
  | nil => cases h
  | cons y r ih =>
    rw [List.sum_cons]
    rcases List.mem_cons.1 h with rfl | h
    · omega
    · have := ih h
      omega
theorem sizeP_le {d : MD} {p : Pt} (hp : p ∈ ps) : sizeP p d ≤ sizeK ps d := by
  unfold sizeK
  exact le_sumL (List.mem_map.2 ⟨p, hp, rfl⟩)
/-- A part is put. -/
theorem row41 (x : K5) (hgo : Goes x.a3.id) {bp b g : Nat} {d : MD} {tv : Value} (hp : w.cell? ⟨bp, 0, none⟩ = some (pp g)) (hlp : bp < w.heap.size) (hb : Lies w b 30 (cellsD d tv)) {R : Ending → World → Prop}
    (hc : Calls Tryz.prog x.a3.id (#[pp g, dataV d tv] ++ x.a3.caps) (w.alloc (.cells #[fv x.a0, fv x.a1, fv x.a2, fv x.a3, fv x.a4] 139)) fun e w' => ∃ n : Int, e = .returned (.int .i64 n) ∧ R (.returned (.int .i64 n)) w') :
    Calls Tryz.prog 183 #[kv x, .pointer (some ⟨bp, 0, none⟩), .pointer (some ⟨b, 0, none⟩)] w R := by
  have HC := Lib.hid hc
  have c0 := hb.cell 0
  have c1 := hb.cell 1
  have c2 := hb.cell 2
  have c3 := hb.cell 3
  have c4 := hb.cell 4
  have c5 := hb.cell 5
  have c6 := hb.cell 6
  have c7 := hb.cell 7
  have c8 := hb.cell 8
  have c9 := hb.cell 9
  have c10 := hb.cell 10
  have c11 := hb.cell 11
  have hlt := hb.lt
  unfold Goes at hgo
  clear hc hb
  go_enter Tryz.func183, Tryz.ntmps183
  go_wp2_with ((with_reducible refine HC.out.mono ?_); rintro e w1 ⟨n, rfl, hr⟩; have HR := Lib.hid hr; clear hr)
  exact HR.out
set_option maxHeartbeats 1000000 in
theorem row4 (H : RowH Bs w0 L ps) (h : RowW Bs w0 L ps bx gp w) {base g M : Nat} {F : Nat → Prop} {s : PS} (d : MD) (tv : Value) (hF : ∀ j, Bs j → ¬ F j) (hp : PK w base F g M s) (hf : Fit w d tv) (hbk : ∀ j, blk tv = some j → j < base) (hc : chkK ps d = 0) (hsz : sizeK ps d ≤ 65535) :
    Calls Tryz.prog 182 #[pp g, dataV d tv, .pointer (some ⟨bx, 0, none⟩)] w (Pkr w base F g M (putK M ps d s).2 (.int .i64 ((putK M ps d s).1 : Nat))) := by
  obtain ⟨W, hW⟩ : ∃ W, W = (w.alloc (.cells #[pp g] 35)).alloc (.cells (cellsD d tv) 30) := ⟨_, rfl⟩
  have hb0 : Below w.heap.size w W := by rw [hW]; exact ((Below.refl _ _).alloc (Nat.le_refl _) _).alloc (by simp) _
  have hP : Lies W w.heap.size 35 #[pp g] := by rw [hW]; exact (Lies.new w _ _).alloc _
  have hL : Lies W (w.heap.size + 1) 30 (cellsD d tv) := by
    have := Lies.new (w.alloc (.cells #[pp g] 35)) 30 (cellsD d tv)
    rw [hW]
    rwa [size_alloc] at this
  have hRW := h.next H hb0
  have hpW := hp.next hb0
  have hFp : ¬ F w.heap.size := fun hx => by have := (hp.lt hx).2; omega
  have hFd : ¬ F (w.heap.size + 1) := fun hx => by have := (hp.lt hx).2; omega
  have hcb := hRW.box.cell 0
  have hfW := hf.next hb0
  have HK0 := Lib.hid (Kf.of_below (base := base) (F := F) hb0 hp.base_le)
  obtain ⟨Q, hQ⟩ : ∃ Q, putK M ps d s = Q := ⟨_, rfl⟩
  have HF := Lib.hid (firstK_any gp L.length L 183 #[.pointer (some ⟨w.heap.size, 0, none⟩), .pointer (some ⟨w.heap.size + 1, 0, none⟩)]
    (fun k wx => ∃ F' s', PK wx base F' g M s' ∧ Kf base F F' W wx ∧ putK M (ps.drop k) d s' = Q) (fun x wx => ∃ F' s', PK wx base F' g M s' ∧ Kf base F F' W wx ∧ (x, s') = Q) W goR.2.1 (Nat.le_trans H.few (by decide))
    (fun k wx hJ => let ⟨_, _, _, hk, _⟩ := hJ; (hRW.kf H hF hk).kb) (fun k wx o hJ => let ⟨F', s', h1, h2, h3⟩ := hJ; ⟨F', s', h1.next ((Below.refl _ _).alloc (Nat.le_refl _) o), h2.trans (Kf.of_below ((Below.refl _ _).alloc (Nat.le_refl _) o) h1.base_le), h3⟩) ⟨F, s, hpW, Kf.refl _ _ _, hQ⟩ (fun k wx hk hJ => by
      have hpk : k < ps.length := by rw [← H.len]; exact hk
      obtain ⟨F', s', h1, h2, h3⟩ := hJ
      rw [putK_step hpk] at h3
      refine row41 L[k] (H.goes k hk).2.2.2.1 (cell_kf h2 hP.lt hFp (hP.cell 0)) (Nat.lt_of_lt_of_le hP.lt h2.below.size) ((h2.rest _ hL.lt hFd).trans hL) ?_
      have hb2 : Below wx.heap.size wx (wx.alloc (.cells #[fv L[k].a0, fv L[k].a1, fv L[k].a2, fv L[k].a3, fv L[k].a4] 139)) := (Below.refl _ _).alloc (Nat.le_refl _) _
      have hk2 : Kf base F F' W _ := h2.trans (Kf.of_below hb2 h1.base_le)
      have hR2 := hRW.kf H hF hk2
      have hf2 : Fit _ d tv := { hfW with row := hfW.row.far hk2.below.size fun j hj => hk2.below.block j (hbk j hj) }
      have hz : chkP ps[k] d = 0 := firstE_zero hc _ (List.getElem_mem hpk)
      refine ((hR2.kops H k hk hpk).put base F' g M s' d tv (kf_out H hRW hF h2) (h1.next hb2) hf2 hbk (by rw [chk_one]; exact hz) (by rw [size_one]; exact Nat.le_trans (sizeP_le (List.getElem_mem hpk)) hsz)).calls.mono ?_
      rintro e w1 ⟨rfl, F2, h4, h5⟩
      rw [put_one] at h4 ⊢
      refine ⟨_, rfl, (putP M ps[k] d s').1, rfl, ?_⟩
      by_cases h0 : (putP M ps[k] d s').1 = 0
      · rw [if_pos h0] at h3
        exact .inl ⟨h0, F2, _, h4, hk2.trans h5, h3⟩
      · rw [if_neg h0] at h3
        exact .inr ⟨h0, F2, _, h4, hk2.trans h5, h3⟩))
  have hlen := H.len
  have HE : Hid (∀ x : Nat, ∀ w1, ((x = 0 ∧ ∃ F' s', PK w1 base F' g M s' ∧ Kf base F F' W w1 ∧ putK M (ps.drop L.length) d s' = Q) ∨ (x ≠ 0 ∧ ∃ F' s', PK w1 base F' g M s' ∧ Kf base F F' W w1 ∧ (x, s') = Q)) → x = Q.1 ∧ ∃ F', PK w1 base F' g M Q.2 ∧ Kf base F F' w w1) := Lib.hid fun x w1 hx => by
    rcases hx with ⟨rfl, F', s', h1, h2, h3⟩ | ⟨_, F', s', h1, h2, h3⟩
    · rw [hlen, List.drop_length] at h3
      rw [← h3]
      exact ⟨rfl, F', h1, HK0.out.trans h2⟩
    · rw [← h3]
      exact ⟨rfl, F', h1, HK0.out.trans h2⟩
  rw [hQ]
  clear hQ H h hf hb0 hL hRW hfW hlen hp hpW hP hFp hFd hF hbk hc hsz HK0
  unfold dataV
  go_enter Tryz.func182, Tryz.ntmps182
  go_upto_region 1 with (fail)
  rw [← hW]
  clear hW
  go_wp2_with (go_at_call 179; (with_reducible refine HF.out.mono ?_); rintro e w1 ⟨x, rfl, hx⟩; have HX := Lib.hid hx; clear hx)
  go_ret
  obtain ⟨rfl, F', h1, h2⟩ := HE.out x w1 HX.out
  exact ⟨rfl, F', h1, h2⟩

/-! ### Reading -/
theorem rdK_step {T R : List UInt8} {k i : Nat} {d : MD} (hk : k < ps.length) : rdK T R (ps.drop k) d i = if (rdP T R ps[k] d i).e ≠ 0 then rdP T R ps[k] d i else rdK T R (ps.drop (k + 1)) (rdP T R ps[k] d i).d (rdP T R ps[k] d i).k := by
  rw [List.drop_eq_getElem_cons hk]
  rfl
/-- A part is read. -/
theorem row51 (x : K5) (hgo : Goes x.a4.id) {bc b c g : Nat} (hp : w.cell? ⟨bc, 0, none⟩ = some (pp c)) (hlp : bc < w.heap.size) (hb : w.cell? ⟨b, 0, none⟩ = some (pp g)) (hlb : b < w.heap.size) {R : Ending → World → Prop}
    (hc : Calls Tryz.prog x.a4.id (#[pp c, pp g] ++ x.a4.caps) (w.alloc (.cells #[fv x.a0, fv x.a1, fv x.a2, fv x.a3, fv x.a4] 139)) fun e w' => ∃ n : Int, e = .returned (.int .i64 n) ∧ R (.returned (.int .i64 n)) w') :
    Calls Tryz.prog 185 #[kv x, .pointer (some ⟨bc, 0, none⟩), .pointer (some ⟨b, 0, none⟩)] w R := by
  have HC := Lib.hid hc
  unfold Goes at hgo
  clear hc
  go_enter Tryz.func185, Tryz.ntmps185
  go_wp2_with ((with_reducible refine HC.out.mono ?_); rintro e w1 ⟨n, rfl, hr⟩; have HR := Lib.hid hr; clear hr)
  exact HR.out
set_option maxHeartbeats 1000000 in
theorem row5 (H : RowH Bs w0 L ps) (h : RowW Bs w0 L ps bx gp w) {base c g gd : Nat} {F : Nat → Prop} {S R : ByteArray} {k : Nat} {d : MD} {tv : Value} (hF : ∀ j, Bs j → ¬ F j) (hS : S.size ≤ 1099511627776) (hR : R.size ≤ S.size) (hd : d.L = []) (hs : RS w base F c g gd S R k d tv) :
    Calls Tryz.prog 184 #[pp c, pp gd, .pointer (some ⟨bx, 0, none⟩)] w (ReadB w base F c g gd S R (rdK (bs S) (bs R) ps d k)) := by
  obtain ⟨W, hW⟩ : ∃ W, W = (w.alloc (.cells #[pp c] 213)).alloc (.cells #[pp gd] 201) := ⟨_, rfl⟩
  have hb0 : Below w.heap.size w W := by rw [hW]; exact ((Below.refl _ _).alloc (Nat.le_refl _) _).alloc (by simp) _
  have hP : Lies W w.heap.size 213 #[pp c] := by rw [hW]; exact (Lies.new w _ _).alloc _
  have hL : Lies W (w.heap.size + 1) 201 #[pp gd] := by
    have := Lies.new (w.alloc (.cells #[pp c] 213)) 201 #[pp gd]
    rw [hW]
    rwa [size_alloc] at this
  have hRW := h.next H hb0
  obtain ⟨hsW, hK0⟩ := hs.next hb0
  have hFp : ¬ F w.heap.size := fun hx => by have := (hs.Fl _ hx).2; omega
  have hFd : ¬ F (w.heap.size + 1) := fun hx => by have := (hs.Fl _ hx).2; omega
  have hcb := hRW.box.cell 0
  have HK0 := Lib.hid hK0
  obtain ⟨Q, hQ⟩ : ∃ Q, rdK (bs S) (bs R) ps d k = Q := ⟨_, rfl⟩
  have HF := Lib.hid (firstK_any gp L.length L 185 #[.pointer (some ⟨w.heap.size, 0, none⟩), .pointer (some ⟨w.heap.size + 1, 0, none⟩)]
    (fun i wx => ∃ F' k' d' tv', RS wx base F' c g gd S R k' d' tv' ∧ Kf base F F' W wx ∧ rdK (bs S) (bs R) (ps.drop i) d' k' = Q ∧ d'.L = []) (fun x wx => ∃ F' k' d' tv', RS wx base F' c g gd S R k' d' tv' ∧ Kf base F F' W wx ∧ x = Q.e) W goR.2.2 (Nat.le_trans H.few (by decide))
    (fun k wx hJ => let ⟨_, _, _, _, _, hk, _⟩ := hJ; (hRW.kf H hF hk).kb) (fun i wx o hJ => let ⟨F', k', d', tv', h1, h2, h3, h4⟩ := hJ; ⟨F', k', d', tv', (h1.next ((Below.refl _ _).alloc (Nat.le_refl _) o)).1, h2.trans (Kf.of_below ((Below.refl _ _).alloc (Nat.le_refl _) o) h1.base_le), h3, h4⟩) ⟨F, k, d, tv, hsW, Kf.refl _ _ _, hQ, hd⟩ (fun i wx hi hJ => by
      have hpk : i < ps.length := by rw [← H.len]; exact hi
      obtain ⟨F', k', d', tv', h1, h2, h3, h4⟩ := hJ
      rw [rdK_step hpk] at h3
      refine row51 L[i] (H.goes i hi).2.2.2.2 (cell_kf h2 hP.lt hFp (hP.cell 0)) (Nat.lt_of_lt_of_le hP.lt h2.below.size) (cell_kf h2 hL.lt hFd (hL.cell 0)) (Nat.lt_of_lt_of_le hL.lt h2.below.size) ?_
      have hb2 : Below wx.heap.size wx (wx.alloc (.cells #[fv L[i].a0, fv L[i].a1, fv L[i].a2, fv L[i].a3, fv L[i].a4] 139)) := (Below.refl _ _).alloc (Nat.le_refl _) _
      have hk2 : Kf base F F' W _ := h2.trans (Kf.of_below hb2 h1.base_le)
      have hR2 := hRW.kf H hF hk2
      refine ((hR2.kops H i hi hpk).read base F' c g gd S R k' d' tv' (kf_out H hRW hF h2) hS hR h4 (h1.next hb2).1).calls.mono ?_
      rintro e w1 ⟨rfl, F2, k2, d2, tv2, h5, h6, h7⟩
      rw [rd_one] at h7 ⊢
      refine ⟨_, rfl, (rdP (bs S) (bs R) ps[i] d' k').e, rfl, ?_⟩
      by_cases h0 : (rdP (bs S) (bs R) ps[i] d' k').e = 0
      · rw [if_neg (fun hn => hn h0)] at h3
        obtain ⟨rfl, rfl⟩ := h7 h0
        exact .inl ⟨h0, F2, _, _, tv2, h5, hk2.trans h6, h3, by rw [H.txt _ (List.getElem_mem hpk)]; exact h4⟩
      · rw [if_pos h0] at h3
        exact .inr ⟨h0, F2, _, _, tv2, h5, hk2.trans h6, by rw [h3]⟩))
  have hlen := H.len
  have HE : Hid (∀ x : Nat, ∀ w1, ((x = 0 ∧ ∃ F' k' d' tv', RS w1 base F' c g gd S R k' d' tv' ∧ Kf base F F' W w1 ∧ rdK (bs S) (bs R) (ps.drop L.length) d' k' = Q ∧ d'.L = []) ∨ (x ≠ 0 ∧ ∃ F' k' d' tv', RS w1 base F' c g gd S R k' d' tv' ∧ Kf base F F' W w1 ∧ x = Q.e)) →
      x = Q.e ∧ ∃ F' k' d' tv', RS w1 base F' c g gd S R k' d' tv' ∧ Kf base F F' w w1 ∧ (Q.e = 0 → k' = Q.k ∧ d' = Q.d)) := Lib.hid fun x w1 hx => by
    rcases hx with ⟨rfl, F', k', d', tv', h1, h2, h3, _⟩ | ⟨hn, F', k', d', tv', h1, h2, h3⟩
    · rw [hlen, List.drop_length] at h3
      rw [← h3]
      exact ⟨rfl, F', k', d', tv', h1, HK0.out.trans h2, fun _ => ⟨rfl, rfl⟩⟩
    · exact ⟨h3, F', k', d', tv', h1, HK0.out.trans h2, fun h0 => absurd (h3.trans h0) hn⟩
  rw [hQ]
  clear hQ H h hb0 hL hRW hlen hs hsW hP hFp hFd hF hK0 HK0 hd
  go_enter Tryz.func184, Tryz.ntmps184
  go_upto_region 1 with (fail)
  rw [← hW]
  clear hW
  go_wp2_with (go_at_call 179; (with_reducible refine HF.out.mono ?_); rintro e w1 ⟨x, rfl, hx⟩; have HX := Lib.hid hx; clear hx)
  go_ret
  obtain ⟨rfl, F', k', d', tv', h1, h2, h3⟩ := HE.out x w1 HX.out
  exact ⟨rfl, F', k', d', tv', h1, h2, h3⟩
end
end Go.Proofs.YtodedbokeodmkaaGreat
namespace Go.Proofs.YtodedbokeodmkaaGreat
open Go.RowKit
set_option linter.unusedVariables false
set_option maxRecDepth 100000

theorem ge6 : Goes 177 ∧ Goes 178 ∧ Goes 181 ∧ Goes 182 ∧ Goes 184 := ⟨fun _ _ => by kernel_rfl, fun _ _ => by kernel_rfl, fun _ _ => by kernel_rfl, fun _ _ => by kernel_rfl, fun _ _ => by kernel_rfl⟩
/-- What makes a kind of parts hands back. -/
def MakesAt (lo : Nat) (w : World) (K : List Pt) (e : Ending) (w' : World) : Prop := ∃ v, e = .returned v ∧ IK lo w' v K ∧ Below w.heap.size w w'
/-- The parts of a row: kinds of one part each. -/
structure Parts (lo : Nat) (w : World) (L : List K5) (ps : List Pt) : Prop where
  len : L.length = ps.length
  few : L.length ≤ 1000
  ik : ∀ i (hi : i < L.length) (hp : i < ps.length), IK lo w (kv L[i]) [ps[i]]
  txt : ∀ p ∈ ps, ∀ T R d k, (rdP T R p d k).d.L = d.L
  small : ∀ p ∈ ps, ∀ d, sizeP p d ≤ 4503599627370496
theorem IK.k5 {lo : Nat} {w : World} {v : Value} {K : List Pt} (h : IK lo w v K) : ∃ x : K5, v = kv x := by
  obtain ⟨Bs, h1, f0, f1, f2, f3, f4, rfl, ⟨⟨i0, c0, rfl, _⟩, ⟨i1, c1, rfl, _⟩, ⟨i2, c2, rfl, _⟩, ⟨i3, c3, rfl, _⟩, ⟨i4, c4, rfl, _⟩⟩, h2⟩ := h
  exact ⟨⟨⟨i0, c0⟩, ⟨i1, c1⟩, ⟨i2, c2⟩, ⟨i3, c3⟩, ⟨i4, c4⟩⟩, rfl⟩
/-- What a kind in the shape of K5 owes. -/
def IKB (lo : Nat) (w : World) (x : K5) (K : List Pt) (Bs : Nat → Prop) : Prop :=
  (∀ j, Bs j → lo ≤ j ∧ ∃ cs t, w.heap[j]? = some (.cells cs t (0, 0))) ∧ (Goes x.a0.id ∧ Goes x.a1.id ∧ Goes x.a2.id ∧ Goes x.a3.id ∧ Goes x.a4.id) ∧
    ∀ w1 : World, w.heap.size ≤ w1.heap.size → (∀ j, Bs j → w1.heap[j]? = w.heap[j]?) → KOps Bs K w1 (fv x.a0) (fv x.a1) (fv x.a2) (fv x.a3) (fv x.a4)
theorem goes_fv {x : Fc} (h : isFn (fv x)) : Goes x.id := by
  obtain ⟨fid, caps, e, hg⟩ := h
  injection e with e _ _
  injection e with e
  exact e ▸ hg
theorem IK.b {lo : Nat} {w : World} {x : K5} {K : List Pt} (h : IK lo w (kv x) K) : ∃ Bs, IKB lo w x K Bs := by
  obtain ⟨Bs, h1, f0, f1, f2, f3, f4, e, h3, h2⟩ := h
  injection e with e
  simp only [Array.mk.injEq, List.cons.injEq, and_true] at e
  obtain ⟨rfl, rfl, rfl, rfl, rfl⟩ := e
  exact ⟨Bs, h1, ⟨goes_fv h3.1, goes_fv h3.2.1, goes_fv h3.2.2.1, goes_fv h3.2.2.2.1, goes_fv h3.2.2.2.2⟩, h2⟩
theorem below_heap {w w' : World} (h : Below w.heap.size w w') {j : Nat} {cs : Array Value} {t : TypeId} (hj : w.heap[j]? = some (.cells cs t (0, 0))) : w'.heap[j]? = w.heap[j]? := h.block j (Array.getElem?_eq_some_iff.1 hj).1
set_option maxHeartbeats 1000000 in
theorem row_any (lo : Nat) (L : List K5) (ps : List Pt) (gp : Nat) (w : World) (hP : Parts lo w L ps) (hk : KB w gp L) (hgp : lo ≤ gp) (hlo : lo ≤ w.heap.size) :
    Calls Tryz.prog 133 #[.slice (some ⟨gp, 0, none⟩) L.length L.length] w (MakesAt lo w ps) := by
  have HB := Lib.hid (boxes1 w 233 #[.slice (some ⟨gp, 0, none⟩) L.length L.length])
  have HP := Lib.hid hP
  have HK := Lib.hid hk
  clear hP hk
  go_enter Tryz.func133, Tryz.ntmps133
  go_wp2
  refine bodyPost_ret (v := .agg #[.func (.func 177) #[] #[.pointer (some ⟨w.heap.size, 0, none⟩)], .func (.func 178) #[] #[.pointer (some ⟨w.heap.size, 0, none⟩)], .func (.func 181) #[] #[.pointer (some ⟨w.heap.size, 0, none⟩)], .func (.func 182) #[] #[.pointer (some ⟨w.heap.size, 0, none⟩)], .func (.func 184) #[] #[.pointer (some ⟨w.heap.size, 0, none⟩)]]) (by simp [results, Tryz.results133, go_sem]) rfl ?_
  obtain ⟨l1, hb⟩ := HB.out (.cells #[.func (.func 177) #[] #[.pointer (some ⟨w.heap.size, 0, none⟩)], .func (.func 178) #[] #[.pointer (some ⟨w.heap.size, 0, none⟩)], .func (.func 181) #[] #[.pointer (some ⟨w.heap.size, 0, none⟩)], .func (.func 182) #[] #[.pointer (some ⟨w.heap.size, 0, none⟩)], .func (.func 184) #[] #[.pointer (some ⟨w.heap.size, 0, none⟩)]] 139)
  refine ⟨_, rfl, ?_, hb⟩
  generalize (w.alloc _).alloc _ = W at l1 hb ⊢
  have hP := HP.out
  have hk := HK.out
  have hex : ∀ i (hi : i < L.length), ∃ Bs, IKB lo w L[i] [ps[i]'(by rw [← hP.len]; exact hi)] Bs := fun i hi => (hP.ik i hi (by rw [← hP.len]; exact hi)).b
  obtain ⟨Bi, hBi⟩ : ∃ Bi : (i : Nat) → i < L.length → Nat → Prop, ∀ i hi, IKB lo w L[i] [ps[i]'(by rw [← hP.len]; exact hi)] (Bi i hi) := ⟨fun i hi => Classical.choose (hex i hi), fun i hi => Classical.choose_spec (hex i hi)⟩
  have hkW : KB W gp L := Lies.next hk hb
  obtain ⟨Bs, hBs⟩ : ∃ Bs : Nat → Prop, ∀ j, Bs j ↔ (j = gp ∨ j = w.heap.size ∨ ∃ i hi, Bi i hi j) := ⟨_, fun _ => Iff.rfl⟩
  have hcell : ∀ j, Bs j → lo ≤ j ∧ ∃ cs t, W.heap[j]? = some (.cells cs t (0, 0)) := fun j hj => by
    rcases (hBs j).1 hj with rfl | rfl | ⟨i, hi, hj⟩
    · exact ⟨hgp, _, _, hkW⟩
    · exact ⟨hlo, _, _, l1⟩
    · obtain ⟨h1, cs, t, h2⟩ := (hBi i hi).1 j hj
      exact ⟨h1, cs, t, (below_heap hb h2).trans h2⟩
  have HH : RowH Bs W L ps := ⟨hP.len, hP.few, fun j hj => let ⟨_, _, _, h⟩ := hcell j hj; (Array.getElem?_eq_some_iff.1 h).1, fun i hi hp w2 hz hs => by
    refine ((hBi i hi).2.2 w2 (Nat.le_trans hb.size hz) fun j hj => ?_).mono fun j hj => (hBs j).2 (.inr (.inr ⟨i, hi, hj⟩))
    obtain ⟨_, cs, t, h2⟩ := (hBi i hi).1 j hj
    exact (hs j ((hBs j).2 (.inr (.inr ⟨i, hi, hj⟩)))).trans (below_heap hb h2), fun i hi => (hBi i hi).2.1, hP.txt, hP.small⟩
  have bx : Bs w.heap.size := (hBs _).2 (.inr (.inl rfl))
  have bg : Bs gp := (hBs _).2 (.inl rfl)
  refine ⟨Bs, hcell, _, _, _, _, _, rfl, ⟨⟨_, _, rfl, ge6.1⟩, ⟨_, _, rfl, ge6.2.1⟩, ⟨_, _, rfl, ge6.2.2.1⟩, ⟨_, _, rfl, ge6.2.2.2.1⟩, ⟨_, _, rfl, ge6.2.2.2.2⟩⟩, fun w1 hz hs => ?_⟩
  have hW : RowW Bs W L ps w.heap.size gp w1 := ⟨hz, hs, same_lies l1 (hs _ bx), same_lies hkW (hs _ bg), bx, bg⟩
  refine ⟨?_, ?_, ?_, ?_, ?_⟩
  · intro g d tv hg h
    exact FunV.of ge6.1 rfl (row1 HH hW hg h)
  · intro d tv h
    exact FunV.of ge6.2.1 rfl (row2 HH hW d tv h)
  · intro d tv h hc
    exact FunV.of ge6.2.2.1 rfl (row3 HH hW d tv h hc fun p hp => HH.small p hp d)
  · intro base F g M s d tv hF hp hf hbk hc hsz
    exact FunV.of ge6.2.2.2.1 rfl (row4 HH hW d tv hF hp hf hbk hc hsz)
  · intro base F c g gd S R k d tv hF hS hR hd h
    exact FunV.of ge6.2.2.2.2 rfl (row5 HH hW hF hS hR hd h)
/-- No texts among these. -/
theorem rdP_texts (p : Pt) (hp : p ≠ .txt) (T R : List UInt8) (d : MD) (k : Nat) : (rdP T R p d k).d.L = d.L := by
  cases p with
  | adr six =>
    simp only [rdP]
    (repeat' split) <;> rfl
  | nam mail ptd => cases mail <;> rfl
  | num a b c e f => rfl
  | txt => exact absurd rfl hp
  | raw => rfl
end Go.Proofs.YtodedbokeodmkaaGreat
