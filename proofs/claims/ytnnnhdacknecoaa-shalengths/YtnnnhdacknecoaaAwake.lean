/-
  The statements' own look at the document's example and at the empty text.
-/
import Derived.Test.YtnnnhdacknecoaaKnown
namespace Go.Proofs.Ytnnnhdacknecoaa
open Go.RowKit

def dabc : ByteArray := ⟨(digest [97, 98, 99]).toArray⟩
def dnil : ByteArray := ⟨(digest []).toArray⟩
def snil : ByteArray := ⟨((digest []).take 16).toArray⟩
theorem dabc_size : dabc.size = 32 := by show (digest [97, 98, 99]).toArray.size = 32; rw [List.size_toArray, digest_length]
theorem dnil_size : dnil.size = 32 := by show (digest []).toArray.size = 32; rw [List.size_toArray, digest_length]
theorem snil_size : snil.size = 16 := by show ((digest []).take 16).toArray.size = 16; rw [List.size_toArray, List.length_take, digest_length]; rfl
theorem sum_abc (w : World) : Calls Try.prog 10 #[.string ⟨#[97, 98, 99]⟩] w fun e w' => e = .returned (.string dabc) ∧ Below w.heap.size w w' := sum_any _ (by decide) w
theorem sum_nil (w : World) : Calls Try.prog 10 #[.string ⟨#[]⟩] w fun e w' => e = .returned (.string dnil) ∧ Below w.heap.size w w' := sum_any _ (by decide) w
theorem short_nil (w : World) : Calls Try.prog 12 #[.string ⟨#[]⟩] w fun e w' => e = .returned (.string snil) ∧ Below w.heap.size w w' := short_any _ (by decide) w
theorem hex_abc (w : World) : Calls Try.prog 13 #[.string dabc] w fun e w' => e = .returned (.string ⟨#[98, 97, 55, 56, 49, 54, 98, 102, 56, 102, 48, 49, 99, 102, 101, 97, 52, 49, 52, 49, 52, 48, 100, 101, 53, 100, 97, 101, 50, 50, 50, 51, 98, 48, 48, 51, 54, 49, 97, 51, 57, 54, 49, 55, 55, 97, 57, 99, 98, 52, 49, 48, 102, 102, 54, 49, 102, 50, 48, 48, 49, 53, 97, 100]⟩) ∧ Below w.heap.size w w' :=
  (hex_any dabc (by rw [dabc_size]; decide) w).mono fun _ _ ⟨he, hb⟩ => ⟨by rw [he]; exact ret_str (congrArg (fun l : List UInt8 => (⟨l.toArray⟩ : ByteArray)) known_abc), hb⟩
theorem hex_nil (w : World) : Calls Try.prog 13 #[.string dnil] w fun e w' => e = .returned (.string ⟨#[101, 51, 98, 48, 99, 52, 52, 50, 57, 56, 102, 99, 49, 99, 49, 52, 57, 97, 102, 98, 102, 52, 99, 56, 57, 57, 54, 102, 98, 57, 50, 52, 50, 55, 97, 101, 52, 49, 101, 52, 54, 52, 57, 98, 57, 51, 52, 99, 97, 52, 57, 53, 57, 57, 49, 98, 55, 56, 53, 50, 98, 56, 53, 53]⟩) ∧ Below w.heap.size w w' :=
  (hex_any dnil (by rw [dnil_size]; decide) w).mono fun _ _ ⟨he, hb⟩ => ⟨by rw [he]; exact ret_str (congrArg (fun l : List UInt8 => (⟨l.toArray⟩ : ByteArray)) known_nil), hb⟩

theorem wpList_same {ops : Array Oper} {rest : List Oper} {o : Oper} {a : Act} {w : World} {Q : Exit → Act → World → Prop} (hw : Region.wanted o (yielded ops a.tmps) = true) (x y : Operand) (ho : o.op = .binOp .eql 9 x y 9)
    (s t : ByteArray) (hx : a.eval x = .string s) (hy : a.eval y = .string t) (b : Bool) (hb : (s.toList == t.toList) = b)
    (h : wpList Try.prog ops Q rest (a.put o.dst (.bool b)) w) : wpList Try.prog ops Q (o :: rest) a w :=
  wpList_step fun K hK => by
    rw [if_pos hw]
    subst hb
    unfold Oper.wp execOp
    simp only [ho, hx, hy, eqGuard, binOp_string_eql, Sem.run_bind, Sem.run_pure]
    exact hK _ _ h

theorem letters_abc : ∃ d h : ByteArray, (∀ w, Calls Try.prog 10 #[.string ⟨#[97, 98, 99]⟩] w fun e w' => e = .returned (.string d) ∧ Below w.heap.size w w') ∧ (∀ w, Calls Try.prog 13 #[.string d] w fun e w' => e = .returned (.string h) ∧ Below w.heap.size w w')
    ∧ (h.toList == ByteArray.toList ⟨#[98, 97, 55, 56, 49, 54, 98, 102, 56, 102, 48, 49, 99, 102, 101, 97, 52, 49, 52, 49, 52, 48, 100, 101, 53, 100, 97, 101, 50, 50, 50, 51, 98, 48, 48, 51, 54, 49, 97, 51, 57, 54, 49, 55, 55, 97, 57, 99, 98, 52, 49, 48, 102, 102, 54, 49, 102, 50, 48, 48, 49, 53, 97, 100]⟩) = true := ⟨dabc, _, sum_abc, hex_abc, by rw [beq_self_eq_true]⟩
theorem letters_nil : ∃ d h : ByteArray, (∀ w, Calls Try.prog 10 #[.string ⟨#[]⟩] w fun e w' => e = .returned (.string d) ∧ Below w.heap.size w w') ∧ (∀ w, Calls Try.prog 13 #[.string d] w fun e w' => e = .returned (.string h) ∧ Below w.heap.size w w')
    ∧ (h.toList == ByteArray.toList ⟨#[101, 51, 98, 48, 99, 52, 52, 50, 57, 56, 102, 99, 49, 99, 49, 52, 57, 97, 102, 98, 102, 52, 99, 56, 57, 57, 54, 102, 98, 57, 50, 52, 50, 55, 97, 101, 52, 49, 101, 52, 54, 52, 57, 98, 57, 51, 52, 99, 97, 52, 57, 53, 57, 57, 49, 98, 55, 56, 53, 50, 98, 56, 53, 53]⟩) = true := ⟨dnil, _, sum_nil, hex_nil, by rw [beq_self_eq_true]⟩

set_option maxRecDepth 10000 in
set_option maxHeartbeats 200000 in
theorem awake_any (w : World) : Calls Try.prog 9 #[] w fun e w' => e = .returned (.bool true) ∧ Below w.heap.size w w' := by
  obtain ⟨da, ha, sa, xa, qa⟩ := letters_abc
  obtain ⟨dn, hn, sn, xn, qn⟩ := letters_nil
  obtain ⟨h, hz, hh⟩ : ∃ d : ByteArray, d.size = 16 ∧ (∀ w, Calls Try.prog 12 #[.string ⟨#[]⟩] w fun e w' => e = .returned (.string d) ∧ Below w.heap.size w w') := ⟨snil, snil_size, short_nil⟩
  go_enter Try.func9, Try.ntmps9
  go_wp2_with fail
  refine (sa _).mono ?_
  rintro e w1 ⟨rfl, hb1⟩
  go_wp2_with fail
  refine (xa _).mono ?_
  rintro e w2 ⟨rfl, hb2⟩
  go_wp2_with (refine wpList_same (by rfl) (.tmp 2) _ (by rfl) ha _ (by rfl) (by rfl) true qa ?_)
  refine (sn _).mono ?_
  rintro e w3 ⟨rfl, hb3⟩
  go_wp2_with fail
  refine (xn _).mono ?_
  rintro e w4 ⟨rfl, hb4⟩
  go_wp2_with (refine wpList_same (by rfl) (.tmp 6) _ (by rfl) hn _ (by rfl) (by rfl) true qn ?_)
  refine (hh _).mono ?_
  rintro e w5 ⟨rfl, hb5⟩
  go_wp2
  go_ret
  have z1 := hb1.size
  have z2 := hb2.size
  have z3 := hb3.size
  have z4 := hb4.size
  exact ⟨rfl, (((hb1.trans (hb2.mono z1)).trans (hb3.mono (by omega))).trans (hb4.mono (by omega))).trans (hb5.mono (by omega))⟩

end Go.Proofs.Ytnnnhdacknecoaa
