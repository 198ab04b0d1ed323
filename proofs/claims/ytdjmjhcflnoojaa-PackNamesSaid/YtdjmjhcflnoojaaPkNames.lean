/-
  The walk of the law PackNames: the chapter's example, call by call. No condition.
-/
import Derived.Test.YtdjmjhcflnoojaaPkLives
namespace Go.Proofs.Ytdjmjhcflnoojaa
open Go.RowKit Go.Maps
set_option linter.unusedVariables false

def pn0 : PS := (nameS 99 ps0 (bs ⟨#[2, 97]⟩)).2
theorem pe0 : (nameS 99 ps0 (bs ⟨#[2, 97]⟩)).1 = 4 := by kernel_rfl
theorem pc0 (wx : World) (b : Nat) (F : Nat → Prop) (g : Nat) (h : PK wx b F g 99 ps0) : Calls Try.prog 10 #[pp g, .string ⟨#[2, 97]⟩] wx (Pkr wx b F g 99 pn0 (.int .i64 4)) := by
  have := pName_any h ⟨#[2, 97]⟩ (by decide)
  rw [pe0] at this
  exact this
def pn1 : PS := (plainS 99 pn0 (bs ⟨#[1, 97]⟩)).2
theorem pe1 : (plainS 99 pn0 (bs ⟨#[1, 97]⟩)).1 = 0 := by kernel_rfl
theorem pc1 (wx : World) (b : Nat) (F : Nat → Prop) (g : Nat) (h : PK wx b F g 99 pn0) : Calls Try.prog 11 #[pp g, .string ⟨#[1, 97]⟩] wx (Pkr wx b F g 99 pn1 (.int .i64 0)) := by
  have := pPlain_any h ⟨#[1, 97]⟩ (by decide)
  rw [pe1] at this
  exact this
def pn2 : PS := (nameS 99 pn1 (bs ⟨#[1, 65]⟩)).2
theorem pe2 : (nameS 99 pn1 (bs ⟨#[1, 65]⟩)).1 = 0 := by kernel_rfl
theorem pc2 (wx : World) (b : Nat) (F : Nat → Prop) (g : Nat) (h : PK wx b F g 99 pn1) : Calls Try.prog 10 #[pp g, .string ⟨#[1, 65]⟩] wx (Pkr wx b F g 99 pn2 (.int .i64 0)) := by
  have := pName_any h ⟨#[1, 65]⟩ (by decide)
  rw [pe2] at this
  exact this
def pn3 : PS := (nameS 99 pn2 (bs ⟨#[1, 97]⟩)).2
theorem pe3 : (nameS 99 pn2 (bs ⟨#[1, 97]⟩)).1 = 0 := by kernel_rfl
theorem pc3 (wx : World) (b : Nat) (F : Nat → Prop) (g : Nat) (h : PK wx b F g 99 pn2) : Calls Try.prog 10 #[pp g, .string ⟨#[1, 97]⟩] wx (Pkr wx b F g 99 pn3 (.int .i64 0)) := by
  have := pName_any h ⟨#[1, 97]⟩ (by decide)
  rw [pe3] at this
  exact this
def pn4 : PS := (nameS 99 pn3 (bs ⟨#[]⟩)).2
theorem pe4 : (nameS 99 pn3 (bs ⟨#[]⟩)).1 = 0 := by kernel_rfl
theorem pc4 (wx : World) (b : Nat) (F : Nat → Prop) (g : Nat) (h : PK wx b F g 99 pn3) : Calls Try.prog 10 #[pp g, .string ⟨#[]⟩] wx (Pkr wx b F g 99 pn4 (.int .i64 0)) := by
  have := pName_any h ⟨#[]⟩ (by decide)
  rw [pe4] at this
  exact this
def pn5 : PS := (beginS 99 pn4).2.2
theorem pe5 : (beginS 99 pn4).1 = 10 ∧ (beginS 99 pn4).2.1 = 0 := ⟨by kernel_rfl, by kernel_rfl⟩
theorem pc5 (wx : World) (b : Nat) (F : Nat → Prop) (g : Nat) (h : PK wx b F g 99 pn4) : Calls Try.prog 12 #[pp g] wx (Pkr wx b F g 99 pn5 (.tuple #[.int .i64 10, .int .i64 0])) := by
  have := pBegin_any h
  rw [pe5.1, pe5.2] at this
  exact this
def pn6 : PS := (putS 99 pn5 (bs ⟨#[120, 121, 122]⟩)).2
theorem pe6 : (putS 99 pn5 (bs ⟨#[120, 121, 122]⟩)).1 = 0 := by kernel_rfl
theorem pc6 (wx : World) (b : Nat) (F : Nat → Prop) (g : Nat) (h : PK wx b F g 99 pn5) : Calls Try.prog 13 #[pp g, .string ⟨#[120, 121, 122]⟩] wx (Pkr wx b F g 99 pn6 (.int .i64 0)) := by
  have := pPut_any h ⟨#[120, 121, 122]⟩ (by decide)
  rw [pe6] at this
  exact this
def pn7 : PS := (endS pn6 11).2
theorem pe7 : (endS pn6 11).1 = 9 := by kernel_rfl
theorem pc7 (wx : World) (b : Nat) (F : Nat → Prop) (g : Nat) (h : PK wx b F g 99 pn6) : Calls Try.prog 14 #[pp g, .int .i64 11] wx (Pkr wx b F g 99 pn7 (.int .i64 9)) := by
  have := pEnd_any h 11
  rw [pe7] at this
  exact this
def pn8 : PS := (endS pn7 10).2
theorem pe8 : (endS pn7 10).1 = 0 := by kernel_rfl
theorem pc8 (wx : World) (b : Nat) (F : Nat → Prop) (g : Nat) (h : PK wx b F g 99 pn7) : Calls Try.prog 14 #[pp g, .int .i64 10] wx (Pkr wx b F g 99 pn8 (.int .i64 0)) := by
  have := pEnd_any h 10
  rw [pe8] at this
  exact this
def pn9 : PS := (endS pn8 10).2
theorem pe9 : (endS pn8 10).1 = 9 := by kernel_rfl
theorem pc9 (wx : World) (b : Nat) (F : Nat → Prop) (g : Nat) (h : PK wx b F g 99 pn8) : Calls Try.prog 14 #[pp g, .int .i64 10] wx (Pkr wx b F g 99 pn9 (.int .i64 9)) := by
  have := pEnd_any h 10
  rw [pe9] at this
  exact this
def pn10 : PS := (nameS 3 ps0 (bs ⟨#[1, 97, 1, 98]⟩)).2
theorem pe10 : (nameS 3 ps0 (bs ⟨#[1, 97, 1, 98]⟩)).1 = 3 := by kernel_rfl
theorem pc10 (wx : World) (b : Nat) (F : Nat → Prop) (g : Nat) (h : PK wx b F g 3 ps0) : Calls Try.prog 10 #[pp g, .string ⟨#[1, 97, 1, 98]⟩] wx (Pkr wx b F g 3 pn10 (.int .i64 3)) := by
  have := pName_any h ⟨#[1, 97, 1, 98]⟩ (by decide)
  rw [pe10] at this
  exact this
def pn11 : PS := (putS 3 pn10 (bs ⟨#[]⟩)).2
theorem pe11 : (putS 3 pn10 (bs ⟨#[]⟩)).1 = 3 := by kernel_rfl
theorem pc11 (wx : World) (b : Nat) (F : Nat → Prop) (g : Nat) (h : PK wx b F g 3 pn10) : Calls Try.prog 13 #[pp g, .string ⟨#[]⟩] wx (Pkr wx b F g 3 pn11 (.int .i64 3)) := by
  have := pPut_any h ⟨#[]⟩ (by decide)
  rw [pe11] at this
  exact this
def pn12 : PS := (beginS 0 ps0).2.2
theorem pe12 : (beginS 0 ps0).1 = 0 ∧ (beginS 0 ps0).2.1 = 3 := ⟨by kernel_rfl, by kernel_rfl⟩
theorem pc12 (wx : World) (b : Nat) (F : Nat → Prop) (g : Nat) (h : PK wx b F g 0 ps0) : Calls Try.prog 12 #[pp g] wx (Pkr wx b F g 0 pn12 (.tuple #[.int .i64 0, .int .i64 3])) := by
  have := pBegin_any h
  rw [pe12.1, pe12.2] at this
  exact this
def pn13 : PS := (numS 99 pn9 7 1).2
theorem pe13 : (numS 99 pn9 7 1).1 = 0 := by kernel_rfl
theorem pc13 (wx : World) (b : Nat) (F : Nat → Prop) (g : Nat) (h : PK wx b F g 99 pn9) : Calls Try.prog 18 #[pp g, .int .u32 7, .int .i64 1] wx (Pkr wx b F g 99 pn13 (.int .i64 0)) := by
  have := pNumber_any h 7 1 (by decide)
  rw [pe13] at this
  exact this
def pn14 : PS := (numS 99 pn13 256 1).2
theorem pe14 : (numS 99 pn13 256 1).1 = 2 := by kernel_rfl
theorem pc14 (wx : World) (b : Nat) (F : Nat → Prop) (g : Nat) (h : PK wx b F g 99 pn13) : Calls Try.prog 18 #[pp g, .int .u32 256, .int .i64 1] wx (Pkr wx b F g 99 pn14 (.int .i64 2)) := by
  have := pNumber_any h 256 1 (by decide)
  rw [pe14] at this
  exact this
theorem pn_text : pn9.l = [1, 97, 0, 1, 65, 0, 1, 97, 0, 0, 0, 3, 120, 121, 122] := by kernel_rfl
theorem pn_err : pn11.f = 3 := by kernel_rfl
theorem pn_len : pn14.l.length = 16 := by kernel_rfl
theorem pn_sz (x : ByteArray) (k : Nat) (hk : sizeN (bs x) = k) (hs : x.size ≤ 1099511627776) (w : World) : Calls Try.prog 17 #[.string x] w fun e w' => e = .returned (.int .i64 k) ∧ Below w.heap.size w w' := by
  have := pSize_any x w hs
  rw [hk] at this
  exact this
theorem pn_s1 (w : World) : Calls Try.prog 17 #[.string ⟨#[1, 97]⟩] w fun e w' => e = .returned (.int .i64 3) ∧ Below w.heap.size w w' := pn_sz _ 3 (by kernel_rfl) (by decide) w
theorem pn_s2 (w : World) : Calls Try.prog 17 #[.string ⟨#[]⟩] w fun e w' => e = .returned (.int .i64 1) ∧ Below w.heap.size w w' := pn_sz _ 1 (by kernel_rfl) (by decide) w
theorem pn_s3 (w : World) : Calls Try.prog 17 #[.string ⟨#[2, 97]⟩] w fun e w' => e = .returned (.int .i64 0) ∧ Below w.heap.size w w' := pn_sz _ 0 (by kernel_rfl) (by decide) w
/-- Three packers beside one another. -/
structure Three (w0 w : World) (bp bq br gp gq gr : Nat) (sp sq sr : PS) : Prop where
  all : ∃ Fp Fq Fr : Nat → Prop, PK w bp Fp gp 99 sp ∧ PK w bq Fq gq 3 sq ∧ PK w br Fr gr 0 sr ∧ (∀ k, Fp k → ¬ Fq k) ∧ (∀ k, Fp k → ¬ Fr k) ∧ (∀ k, Fq k → ¬ Fr k)
  below : Below w0.heap.size w0 w
  lep : w0.heap.size ≤ bp
  leq : w0.heap.size ≤ bq
  ler : w0.heap.size ≤ br
section
variable {w0 w : World} {bp bq br gp gq gr : Nat} {sp sq sr : PS} {e : Ending}
theorem Three.p (h : Three w0 w bp bq br gp gq gr sp sq sr) {f : Nat} {args : Array Value} {sp' : PS} {v : Value} (hc : ∀ F, PK w bp F gp 99 sp → Calls Try.prog f args w (Pkr w bp F gp 99 sp' v)) :
    Calls Try.prog f args w fun e w' => e = .returned v ∧ Three w0 w' bp bq br gp gq gr sp' sq sr := by
  obtain ⟨⟨Fp, Fq, Fr, h1, h2, h3, d12, d13, d23⟩, hb, l1, l2, l3⟩ := h
  refine (hc Fp h1).mono ?_
  rintro e w' ⟨rfl, F', hp, hk⟩
  exact ⟨rfl, ⟨F', Fq, Fr, hp, h2.other hk (apart_symm d12), h3.other hk (apart_symm d13), apart_next d12 hk h2, apart_next d13 hk h3, d23⟩, hb.trans (hk.below.mono l1), l1, l2, l3⟩
theorem Three.q (h : Three w0 w bp bq br gp gq gr sp sq sr) {f : Nat} {args : Array Value} {sq' : PS} {v : Value} (hc : ∀ F, PK w bq F gq 3 sq → Calls Try.prog f args w (Pkr w bq F gq 3 sq' v)) :
    Calls Try.prog f args w fun e w' => e = .returned v ∧ Three w0 w' bp bq br gp gq gr sp sq' sr := by
  obtain ⟨⟨Fp, Fq, Fr, h1, h2, h3, d12, d13, d23⟩, hb, l1, l2, l3⟩ := h
  refine (hc Fq h2).mono ?_
  rintro e w' ⟨rfl, F', hp, hk⟩
  exact ⟨rfl, ⟨Fp, F', Fr, h1.other hk d12, hp, h3.other hk (apart_symm d23), apart_symm (apart_next (apart_symm d12) hk h1), d13, apart_next d23 hk h3⟩, hb.trans (hk.below.mono l2), l1, l2, l3⟩
theorem Three.r (h : Three w0 w bp bq br gp gq gr sp sq sr) {f : Nat} {args : Array Value} {sr' : PS} {v : Value} (hc : ∀ F, PK w br F gr 0 sr → Calls Try.prog f args w (Pkr w br F gr 0 sr' v)) :
    Calls Try.prog f args w fun e w' => e = .returned v ∧ Three w0 w' bp bq br gp gq gr sp sq sr' := by
  obtain ⟨⟨Fp, Fq, Fr, h1, h2, h3, d12, d13, d23⟩, hb, l1, l2, l3⟩ := h
  refine (hc Fr h3).mono ?_
  rintro e w' ⟨rfl, F', hp, hk⟩
  exact ⟨rfl, ⟨Fp, Fq, F', h1.other hk d13, h2.other hk d23, hp, d12, apart_symm (apart_next (apart_symm d13) hk h1), apart_symm (apart_next (apart_symm d23) hk h2)⟩, hb.trans (hk.below.mono l3), l1, l2, l3⟩
theorem Three.n (h : Three w0 w bp bq br gp gq gr sp sq sr) {w' : World} (hb : Below w.heap.size w w') : Three w0 w' bp bq br gp gq gr sp sq sr := by
  obtain ⟨⟨Fp, Fq, Fr, h1, h2, h3, d⟩, hb', l1, l2, l3⟩ := h
  exact ⟨⟨Fp, Fq, Fr, h1.next hb, h2.next hb, h3.next hb, d⟩, hb'.trans (hb.mono hb'.size), l1, l2, l3⟩
theorem Three.mk' {w1 w2 w3 w4 : World} {gp gq gr : Nat} {Fp Fq Fr : Nat → Prop} (hb0 : Below w0.heap.size w0 w1) (h1 : PK w2 w1.heap.size Fp gp 99 ps0) (hb1 : Below w1.heap.size w1 w2) (h2 : PK w3 w2.heap.size Fq gq 3 ps0) (hb2 : Below w2.heap.size w2 w3) (h3 : PK w4 w3.heap.size Fr gr 0 ps0) (hb3 : Below w3.heap.size w3 w4) :
    Three w0 w4 w1.heap.size w2.heap.size w3.heap.size gp gq gr ps0 ps0 ps0 := by
  have s0 := hb0.size
  have s1 := hb1.size
  have s2 := hb2.size
  have h1' := h1.next hb2
  exact ⟨⟨Fp, Fq, Fr, (h1.next hb2).next hb3, h2.next hb3, h3, apart_new h1 h2 (Nat.le_refl _), apart_new h1' h3 (Nat.le_refl _), apart_new h2 h3 (Nat.le_refl _)⟩, ((hb0.trans (hb1.mono s0)).trans (hb2.mono (by omega))).trans (hb3.mono (by omega)), s0, by omega, by omega⟩
end
set_option maxHeartbeats 4000000 in
set_option maxRecDepth 100000 in
theorem PackNames_walk (w : World) :
    Calls Try.prog 3 #[] w fun e w' => e = .returned (.bool true) ∧ Below w.heap.size w w' := by
  have HNp : Hid (∀ wx, Calls Try.prog 9 #[.int .i64 99] wx (NewP wx 99)) := Lib.hid fun wx => pNew_any 99 wx (by decide)
  have HNq : Hid (∀ wx, Calls Try.prog 9 #[.int .i64 3] wx (NewP wx 3)) := Lib.hid fun wx => pNew_any 3 wx (by decide)
  have HNr : Hid (∀ wx, Calls Try.prog 9 #[.int .i64 (-1)] wx (NewP wx 0)) := Lib.hid fun wx => pNew_any (-1) wx (by decide)
  go_enter Try.func3, Try.ntmps3
  go_wp2_with fail
  refine (lives_any _).mono ?_
  rintro e w1 ⟨rfl, hb⟩
  have HB0 := Lib.hid hb
  clear hb
  go_wp2_with fail
  refine (HNp.out _).mono ?_
  rintro e w2 ⟨gp, Fp, rfl, hp, hb⟩
  have H1 := Lib.hid hp
  have HB1 := Lib.hid hb
  clear hp hb
  go_wp2_with fail
  refine (HNq.out _).mono ?_
  rintro e w3 ⟨gq, Fq, rfl, hp, hb⟩
  have H2 := Lib.hid hp
  have HB2 := Lib.hid hb
  clear hp hb
  go_wp2_with fail
  refine (HNr.out _).mono ?_
  rintro e w4 ⟨gr, Fr, rfl, hp, hb⟩
  have HT4 := Lib.hid (Three.mk' HB0.out H1.out HB1.out H2.out HB2.out hp hb)
  clear hp hb H1 H2 HB0 HB1 HB2
  go_wp2_with fail
  refine (HT4.out.p (fun F h => pc0 _ _ F _ h)).mono ?_
  rintro e w5 ⟨rfl, ht⟩
  have HT5 := Lib.hid ht
  clear ht
  go_wp2_with fail
  refine (HT5.out.p (fun F h => pc1 _ _ F _ h)).mono ?_
  rintro e w6 ⟨rfl, ht⟩
  have HT6 := Lib.hid ht
  clear ht
  go_wp2_with fail
  refine (HT6.out.p (fun F h => pc2 _ _ F _ h)).mono ?_
  rintro e w7 ⟨rfl, ht⟩
  have HT7 := Lib.hid ht
  clear ht
  go_wp2_with fail
  refine (HT7.out.p (fun F h => pc3 _ _ F _ h)).mono ?_
  rintro e w8 ⟨rfl, ht⟩
  have HT8 := Lib.hid ht
  clear ht
  go_wp2_with fail
  refine (HT8.out.p (fun F h => pc4 _ _ F _ h)).mono ?_
  rintro e w9 ⟨rfl, ht⟩
  have HT9 := Lib.hid ht
  clear ht
  go_wp2_with fail
  refine (HT9.out.p (fun F h => pc5 _ _ F _ h)).mono ?_
  rintro e w10 ⟨rfl, ht⟩
  have HT10 := Lib.hid ht
  clear ht
  go_wp2_with fail
  refine (HT10.out.p (fun F h => pc6 _ _ F _ h)).mono ?_
  rintro e w11 ⟨rfl, ht⟩
  have HT11 := Lib.hid ht
  clear ht
  go_wp2_with fail
  refine (HT11.out.p (fun F h => pc7 _ _ F _ h)).mono ?_
  rintro e w12 ⟨rfl, ht⟩
  have HT12 := Lib.hid ht
  clear ht
  go_wp2_with fail
  refine (HT12.out.p (fun F h => pc8 _ _ F _ h)).mono ?_
  rintro e w13 ⟨rfl, ht⟩
  have HT13 := Lib.hid ht
  clear ht
  go_wp2_with fail
  refine (HT13.out.p (fun F h => pc9 _ _ F _ h)).mono ?_
  rintro e w14 ⟨rfl, ht⟩
  have HT14 := Lib.hid ht
  clear ht
  go_wp2_with fail
  refine (HT14.out.q (fun F h => pc10 _ _ F _ h)).mono ?_
  rintro e w15 ⟨rfl, ht⟩
  have HT15 := Lib.hid ht
  clear ht
  go_wp2_with fail
  refine (HT15.out.q (fun F h => pc11 _ _ F _ h)).mono ?_
  rintro e w16 ⟨rfl, ht⟩
  have HT16 := Lib.hid ht
  clear ht
  go_wp2_with fail
  refine (HT16.out.r (fun F h => pc12 _ _ F _ h)).mono ?_
  rintro e w17 ⟨rfl, ht⟩
  have HT17 := Lib.hid ht
  clear ht
  go_wp2_with fail
  refine (show Calls _ _ _ _ (fun e w' => e = .returned (.string ⟨#[1, 97, 0, 1, 65, 0, 1, 97, 0, 0, 0, 3, 120, 121, 122]⟩) ∧ _ = w') from by obtain ⟨⟨Fp, Fq, Fr, h1, _⟩, _⟩ := HT17.out; have := pText_any h1; rw [pn_text] at this; exact this).mono ?_
  rintro e w' ⟨rfl, rfl⟩
  go_wp2_with fail
  refine (show Calls _ _ _ _ (fun e w' => e = .returned (.int .i64 3) ∧ _ = w') from by obtain ⟨⟨Fp, Fq, Fr, _, h2, _⟩, _⟩ := HT17.out; have := pErr_any h2; rw [pn_err] at this; exact this).mono ?_
  rintro e w' ⟨rfl, rfl⟩
  go_wp2_with fail
  refine (pn_s1 _).mono ?_
  rintro e w18 ⟨rfl, hb⟩
  have HT18 := Lib.hid (HT17.out.n hb)
  clear hb
  go_wp2_with fail
  refine (pn_s2 _).mono ?_
  rintro e w19 ⟨rfl, hb⟩
  have HT19 := Lib.hid (HT18.out.n hb)
  clear hb
  go_wp2_with fail
  refine (pn_s3 _).mono ?_
  rintro e w20 ⟨rfl, hb⟩
  have HT20 := Lib.hid (HT19.out.n hb)
  clear hb
  go_wp2_with fail
  refine (HT20.out.p (fun F h => pc13 _ _ F _ h)).mono ?_
  rintro e w21 ⟨rfl, ht⟩
  have HT21 := Lib.hid ht
  clear ht
  go_wp2_with fail
  refine (HT21.out.p (fun F h => pc14 _ _ F _ h)).mono ?_
  rintro e w22 ⟨rfl, ht⟩
  have HT22 := Lib.hid ht
  clear ht
  go_wp2_with fail
  refine (show Calls _ _ _ _ (fun e w' => e = .returned (.int .i64 16) ∧ _ = w') from by obtain ⟨⟨Fp, Fq, Fr, h1, _⟩, _⟩ := HT22.out; have := pLen_any h1; rw [pn_len] at this; exact this).mono ?_
  rintro e w' ⟨rfl, rfl⟩
  go_wp2
  go_ret
  exact ⟨rfl, HT22.out.below⟩
end Go.Proofs.Ytdjmjhcflnoojaa
