/- The walk of package disk's Links. The faces of package disk: all that the laws ask of it. -/
import Derived.Test.YthodbeeglkedcaaGreatDzbn
import Derived.Test.YthodbeeglkedcaaGreatDzbb
import Derived.Test.YthodbeeglkedcaaGreatDzbp
namespace Go.Proofs.YthodbeeglkedcaaGreat
open Go.RowKit
theorem rowOut_later {w w' : World} {v : Value} {l : List (List UInt8)} (h : RowOut w v l) (hb : Below w.heap.size w w') : RowOut w' v l := by
  obtain ⟨A, c, rfl, hr⟩ := h
  exact ⟨A, c, rfl, (hr.below hb).wide hb.size⟩
theorem cat_W (u : List UInt8) : str u ++ (⟨#[46, 119, 97, 110, 116, 115]⟩ : ByteArray) = str (u ++ dotW) := by
  apply Nm.ext_list
  rw [app_list, str_list, str_list]; rfl
theorem cat_R (u : List UInt8) : str u ++ (⟨#[46, 114, 101, 113, 117, 105, 114, 101, 115]⟩ : ByteArray) = str (u ++ dotR) := by
  apply Nm.ext_list
  rw [app_list, str_list, str_list]; rfl
theorem linked_links {l : List Fi} (hm : mayL nmsP l = true) (u : List UInt8) : tidyT (gatherL (gd (u ++ dotW)) l) = linksL nmsP 3 l u ∧ tidyT (gatherL (gd (u ++ dotR)) l) = linksL nmsP 4 l u :=
  ⟨links_gather nmsOk hm u dotW 3 (.inl ⟨rfl, rfl⟩) (tidyT_facts _).1 (tidyT_facts _).2, links_gather nmsOk hm u dotR 4 (.inr ⟨rfl, rfl⟩) (tidyT_facts _).1 (tidyT_facts _).2⟩
set_option maxHeartbeats 4000000 in
theorem dLinks_any (A : Option Addr) (n c B : Nat) (l : List Fi) (u : ByteArray) (hu : u.size ≤ 4194304) (w : World) (h : FisAt w B A n l) (hB : B ≤ w.heap.size) (hs : ∀ x ∈ l, SizeF x) :
    Calls Tryz.prog 10 #[.slice A n c, .string u] w (LinksP l u.data.toList w) := by
  obtain ⟨ul, rfl⟩ : ∃ ul, u = str ul := ⟨u.data.toList, (str_data u).symm⟩
  rw [str_list]
  have hl := h.1
  have HM := Lib.hid (dMay_any A n c B l w h hB hs)
  unfold LinksP
  rcases hm : mayL nmsP l with _ | _
  · have H3 := Lib.hid (links_no (k := 3) (u := ul) hm)
    have H4 := Lib.hid (links_no (k := 4) (u := ul) hm)
    rw [hm] at HM
    clear hm
    go_enter Tryz.func10, Tryz.ntmps10
    go_wp2_with fail
    refine HM.out.mono ?_
    rintro e w1 ⟨rfl, hb1⟩
    go_wp2_with fail
    go_ret2
    exact ⟨_, _, rfl, by rw [H3.out]; exact rowOut_nil _, by rw [H4.out]; exact rowOut_nil _, hb1⟩
  have hn : n ≤ 120 := by have := (may_parts.1 hm).1; omega
  obtain ⟨e3, e4⟩ := linked_links hm ul
  have hul : ul.length ≤ 4194304 := by rw [← str_size ul]; exact hu
  have HK := Lib.hid (fun (fo : List UInt8) (hf : fo.length ≤ 8388608) (W : World) (hb : Below w.heap.size w W) => linked_any A n c B l fo hf W (h.below (hb.mono hB)) (Nat.le_trans hB hb.size) hs hn)
  have HW : Hid (∀ W, Below w.heap.size w W → Calls Tryz.prog 28 #[.slice A n c, .string (str ul ++ (⟨#[46, 119, 97, 110, 116, 115]⟩ : ByteArray))] W (fun e w' => ∃ v, e = .returned v ∧ RowOut w' v (linksL nmsP 3 l ul) ∧ Below W.heap.size W w')) := fun W hb => by
    rw [cat_W, ← e3]
    exact HK.out (ul ++ dotW) (by rw [List.length_append]; show ul.length + 6 ≤ _; omega) W hb
  have HR : Hid (∀ W, Below w.heap.size w W → Calls Tryz.prog 28 #[.slice A n c, .string (str ul ++ (⟨#[46, 114, 101, 113, 117, 105, 114, 101, 115]⟩ : ByteArray))] W (fun e w' => ∃ v, e = .returned v ∧ RowOut w' v (linksL nmsP 4 l ul) ∧ Below W.heap.size W w')) := fun W hb => by
    rw [cat_R, ← e4]
    exact HK.out (ul ++ dotR) (by rw [List.length_append]; show ul.length + 9 ≤ _; omega) W hb
  rw [hm] at HM
  clear hm e3 e4 HK h hs hul
  go_enter Tryz.func10, Tryz.ntmps10
  go_wp2_with fail
  refine HM.out.mono ?_
  rintro e w1 ⟨rfl, hb1⟩
  have HB1 := Lib.hid hb1
  clear hb1 HM
  go_wp2_with fail
  refine (HW.out _ HB1.out).mono ?_
  rintro e w2 ⟨v2, rfl, h2, hb2⟩
  have HB2 := Lib.hid (more3 HB1.out HB1.out.size hb2)
  have H2 := Lib.hid h2
  clear hb2 h2
  go_wp2_with fail
  refine (HR.out _ HB2.out).mono ?_
  rintro e w3 ⟨v3, rfl, h3, hb3⟩
  have HB3 := Lib.hid (more3 HB2.out HB2.out.size hb3)
  have H2' := Lib.hid (rowOut_later H2.out hb3)
  have H3 := Lib.hid h3
  clear hb3 h3
  go_wp2_with fail
  go_ret2
  exact ⟨v2, v3, rfl, H2'.out, H3.out, HB3.out⟩
end Go.Proofs.YthodbeeglkedcaaGreat
namespace Go.Proofs.YthodbeeglkedcaaGreat
end Go.Proofs.YthodbeeglkedcaaGreat
