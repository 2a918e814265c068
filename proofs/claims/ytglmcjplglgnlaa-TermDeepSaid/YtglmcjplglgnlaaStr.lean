/-
  Texts out of lists of bytes.
-/
import Derived.Test.YtglmcjplglgnlaaKit
import Derived.Lib.Strings
namespace Go.Proofs.Ytglmcjplglgnlaa
open Go.RowKit

/-- A text out of a list of bytes. -/
def str (l : List UInt8) : ByteArray := ⟨l.toArray⟩
theorem str_data (l : List UInt8) : (str l).data.toList = l := rfl
theorem str_size (l : List UInt8) : (str l).size = l.length := by unfold str; simp [ByteArray.size]
theorem str_eta (s : ByteArray) : str s.data.toList = s := by cases s; simp [str]
theorem str_of {s : ByteArray} {l : List UInt8} (h : s.data.toList = l) : s = str l := by rw [← h, str_eta]
theorem str_inj {a b : List UInt8} (h : str a = str b) : a = b := by rw [← str_data a, h, str_data]
theorem str_cat (l : List UInt8) (s : ByteArray) : str l ++ s = str (l ++ s.data.toList) := by rw [cat_data]; rfl
theorem cat_str (s t : ByteArray) : s ++ t = str (s.data.toList ++ t.data.toList) := cat_data s t
theorem extract_is (s : ByteArray) (a b : Nat) : s.extract a b = str ((s.data.toList.drop a).take (b - a)) := by
  apply str_of
  rw [← Lib.extract_toList, ByteArray.toList_eq]
theorem str_from (l : List UInt8) (k : Nat) : (str l).extract k (str l).size = str (l.drop k) := by
  rw [extract_is, str_data, str_size, List.take_of_length_le (by simp)]
theorem str_upto (l : List UInt8) (k : Nat) : (str l).extract 0 k = str (l.take k) := by
  rw [extract_is, str_data]; simp
theorem str_nil : str [] = ⟨#[]⟩ := rfl
end Go.Proofs.Ytglmcjplglgnlaa
